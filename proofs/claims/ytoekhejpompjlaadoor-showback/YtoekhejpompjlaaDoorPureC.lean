/- Several texts in one: Math7, Math7b, Math7c, Math7d, Math7e, Math7f, Math7g, Math7h, Math7i, Math7j, Math7k, Math7l, Math7m, Math7n, Math7o. -/
import Derived.Test.YtoekhejpompjlaaDoorPureA
import Derived.Test.YtoekhejpompjlaaDoorPureB
namespace Go.Em7
open Go.RowKit Go.Em5

/-! ### A number's digits -/
def digsF : Nat → Nat → List Int
  | 0, n => [48 + ((n % 10 : Nat) : Int)]
  | f + 1, n => if n < 10 then [48 + ((n % 10 : Nat) : Int)] else digsF f (n / 10) ++ [48 + ((n % 10 : Nat) : Int)]
def digs (n : Nat) : List Int := digsF 20 n
theorem digsF_more : ∀ (f g n : Nat), n < 10 ^ (f + 1) → n < 10 ^ (g + 1) → digsF f n = digsF g n
  | 0, 0, _, _, _ => rfl
  | 0, g + 1, n, h, _ => by simp only [digsF]; rw [if_pos (by simpa using h)]
  | f + 1, 0, n, _, h => by simp only [digsF]; rw [if_pos (by simpa using h)]
  | f + 1, g + 1, n, h1, h2 => by
    simp only [digsF]
    by_cases h10 : n < 10
    · rw [if_pos h10, if_pos h10]
    · rw [if_neg h10, if_neg h10]
      have key : ∀ k, n < 10 ^ (k + 1 + 1) → n / 10 < 10 ^ (k + 1) := fun k hk => by
        rw [Nat.div_lt_iff_lt_mul (by omega)]
        rw [Nat.pow_succ] at hk
        exact hk
      rw [digsF_more f g (n / 10) (key f h1) (key g h2)]
theorem digsF_succ (f n : Nat) : digsF (f + 1) n = if n < 10 then [48 + ((n % 10 : Nat) : Int)] else digsF f (n / 10) ++ [48 + ((n % 10 : Nat) : Int)] := rfl
theorem digs_lt {n : Nat} (h : n < 10) : digs n = [48 + ((n % 10 : Nat) : Int)] := by
  show digsF (19 + 1) n = _
  rw [digsF_succ, if_pos h]
theorem digs_ge {n : Nat} (h : ¬ n < 10) (hn : n ≤ 9223372036854775807) : digs n = digs (n / 10) ++ [48 + ((n % 10 : Nat) : Int)] := by
  show digsF (19 + 1) n = _
  rw [digsF_succ, if_neg h, digsF_more 19 20 (n / 10) (by omega) (by omega)]
  rfl
theorem digsF_len : ∀ (f n : Nat), n < 10 ^ (f + 1) → (digsF f n).length ≤ f + 1 ∧ 1 ≤ (digsF f n).length
  | 0, _, _ => by simp [digsF]
  | f + 1, n, h => by
    simp only [digsF]
    split
    · simp
    · have : n / 10 < 10 ^ (f + 1) := by
        rw [Nat.div_lt_iff_lt_mul (by omega)]
        rw [Nat.pow_succ] at h
        exact h
      have := digsF_len f (n / 10) this
      simp only [List.length_append, List.length_cons, List.length_nil]
      omega
theorem digs_len {n : Nat} (hn : n ≤ 9223372036854775807) : (digs n).length ≤ 19 ∧ 1 ≤ (digs n).length := by
  have e : digs n = digsF 18 n := digsF_more 20 18 n (by omega) (by omega)
  rw [e]
  exact digsF_len 18 n (by omega)
theorem digsF_mem : ∀ (f n : Nat), ∀ x ∈ digsF f n, 48 ≤ x ∧ x ≤ 57
  | 0, n, x, h => by simp only [digsF, List.mem_singleton] at h; omega
  | f + 1, n, x, h => by
    simp only [digsF] at h
    split at h
    · simp only [List.mem_singleton] at h; omega
    · rcases List.mem_append.1 h with h | h
      · exact digsF_mem f (n / 10) x h
      · simp only [List.mem_singleton] at h; omega

/-! ### A text -/
def tx (ts : List (List Int)) (i : Nat) : List Int := ts[i]?.getD []
/-- What stands between two kids; none. -/
def signOf (op : List Int) : List Int :=
  if op = oSeq then [59, 32] else if op = oSet then [32, 58, 61, 32] else if op = oEq then [32, 61, 32] else if op = oLess then [32, 60, 32] else if op = oCons then [32, 58, 58, 32] else if op = oAdd then [32, 43, 32] else if op = oSub then [32, 45, 32] else if op = oCat then [32, 94, 32] else if op = oMul then [32, 42, 32] else if op = oApp then [32] else []
/-- What stands in the parentheses. -/
def innerB (op nm ar : List Int) (ts : List (List Int)) : List Int :=
  if signOf op ≠ [] then tx ts 0 ++ signOf op ++ tx ts 1
  else if op = oFun then [102, 117, 110, 32] ++ nm ++ [32, 45, 62, 32] ++ tx ts 0
  else if op = oLet then [108, 101, 116, 32] ++ nm ++ [32, 61, 32] ++ tx ts 0 ++ [32, 105, 110, 32] ++ tx ts 1
  else if op = oRec then [108, 101, 116, 32, 114, 101, 99, 32] ++ nm ++ [32] ++ ar ++ [32, 61, 32] ++ tx ts 0 ++ [32, 105, 110, 32] ++ tx ts 1
  else if op = oIf then [105, 102, 32] ++ tx ts 0 ++ [32, 116, 104, 101, 110, 32] ++ tx ts 1 ++ [32, 101, 108, 115, 101, 32] ++ tx ts 2
  else if op = oMatch then [109, 97, 116, 99, 104, 32] ++ tx ts 0 ++ [32, 119, 105, 116, 104, 32, 91, 93, 32, 45, 62, 32] ++ tx ts 1 ++ [32, 124, 32] ++ nm ++ [32, 58, 58, 32] ++ ar ++ [32, 45, 62, 32] ++ tx ts 2
  else if op = oTry then [116, 114, 121, 32] ++ tx ts 0 ++ [32, 119, 105, 116, 104, 32] ++ nm ++ [32, 45, 62, 32] ++ tx ts 1
  else op ++ ts.flatMap (fun t => 32 :: t)
def textB (op nm ar : List Int) (n : Int) (ts : List (List Int)) : List Int :=
  if op = oInt then digs n.toNat
  else if op = oBool then (if n = 1 then [116, 114, 117, 101] else [102, 97, 108, 115, 101])
  else if op = oUnit then [40, 41]
  else if op = oNil then [91, 93]
  else if op = oStr then [34] ++ nm ++ [34]
  else if op = oVar then nm
  else if op = oPair then [40] ++ tx ts 0 ++ [44, 32] ++ tx ts 1 ++ [41]
  else if op = oGet then [33] ++ tx ts 0
  else [40] ++ innerB op nm ar ts ++ [41]
mutual
/-- An expression's text. -/
def text : Nd → List Int | .mk op nm ar n _ l => textB op nm ar n (texts l)
def texts : List Nd → List (List Int) | [] => [] | t :: r => text t :: texts r
end
theorem texts_map : ∀ l, texts l = l.map text
  | [] => rfl
  | t :: r => by simp [texts, texts_map r]
theorem texts_get (l : List Nd) (j : Nat) (t : Nd) (h : l[j]? = some t) : tx (texts l) j = text t := by
  rw [texts_map, tx, List.getElem?_map, h]; rfl
/-- What is inside. -/
def inner (t : Nd) : List Int := innerB t.op t.nm t.ar (texts t.kids)
end Go.Em7

namespace Go.Em7
open Go.RowKit Go.Em5

theorem kids_five {op : List Int} (h : 0 ≤ kidsN op) : op.length ≤ 5 ∧ kidsN op ≤ 3 := by
  have h0 : ∀ o ∈ ops0, o.length ≤ 5 := by decide
  have h1 : ∀ o ∈ ops1, o.length ≤ 5 := by decide
  have h2 : ∀ o ∈ ops2, o.length ≤ 5 := by decide
  have h3 : ∀ o ∈ ops3, o.length ≤ 5 := by decide
  unfold kidsN at h ⊢
  by_cases c0 : op ∈ ops0
  · simp only [c0, if_true]; exact ⟨h0 op c0, by omega⟩
  · by_cases c1 : op ∈ ops1
    · simp only [c0, c1, if_true, if_false]; exact ⟨h1 op c1, by omega⟩
    · by_cases c2 : op ∈ ops2
      · simp only [c0, c1, c2, if_true, if_false]; exact ⟨h2 op c2, by omega⟩
      · by_cases c3 : op ∈ ops3
        · simp only [c0, c1, c2, c3, if_true, if_false]; exact ⟨h3 op c3, by omega⟩
        · simp [c0, c1, c2, c3] at h
theorem nameOk_len {L : List Int} (h : Em4.nameOk L = true) : L.length ≤ 40 := by
  unfold Em4.nameOk at h
  split at h
  · simp
  · rename_i c r
    simp only [Bool.and_eq_true] at h
    obtain ⟨-, h⟩ := h
    cases hn : Em4.nameAt (c :: r) with
    | none => rw [hn] at h; simp at h
    | some q =>
      obtain ⟨k, x, y, m⟩ := q
      rw [hn] at h
      simp only [Bool.and_eq_true, decide_eq_true_eq] at h
      simp only [Em4.nameAt] at hn
      split at hn
      · simp only [Option.some.injEq, Prod.mk.injEq] at hn; omega
      · split at hn
        · cases hn
        · simp only [Option.some.injEq, Prod.mk.injEq] at hn; omega
theorem each_cases {op nm ar : List Int} {n p : Int} {l : List Nd} (h : each (.mk op nm ar n p l) = true) : op.length ≤ 5 ∧ nm.length ≤ 40 ∧ ar.length ≤ 40 ∧ kidsN op = l.length := by
  simp only [each, Bool.and_eq_true, decide_eq_true_eq, namesOk, Nd.op, Nd.nm, Nd.ar, Nd.n] at h
  obtain ⟨h1, ⟨h2, h3, -⟩, -⟩ := h
  refine ⟨(kids_five (by omega)).1, ?_, ?_, h1⟩
  · unfold nameA at h2
    split at h2
    · exact nameOk_len h2
    · split at h2
      · unfold Em4.textOk at h2; simp at h2; exact h2.2
      · simp at h2; subst h2; simp
  · unfold nameB at h3
    split at h3
    · exact nameOk_len h3
    · simp at h3; subst h3; simp
theorem each_kids {op nm ar : List Int} {n p : Int} {l : List Nd} (h : each (.mk op nm ar n p l) = true) : ∀ t ∈ l, each t = true := by
  simp only [each, Bool.and_eq_true] at h
  have := h.2.2
  clear h
  induction l with
  | nil => simp
  | cons a r ih =>
    simp only [eachs, Bool.and_eq_true] at this
    intro t ht
    simp only [List.mem_cons] at ht
    rcases ht with rfl | ht
    · exact this.1
    · exact ih this.2 t ht
def signL : List (List Int × List Int) := [(oSeq, [59, 32]), (oSet, [32, 58, 61, 32]), (oEq, [32, 61, 32]), (oLess, [32, 60, 32]), (oCons, [32, 58, 58, 32]), (oAdd, [32, 43, 32]), (oSub, [32, 45, 32]), (oCat, [32, 94, 32]), (oMul, [32, 42, 32]), (oApp, [32])]
theorem sign_mem {op : List Int} (h : signOf op ≠ []) : (op, signOf op) ∈ signL := by
  unfold signOf at h ⊢
  by_cases h1 : op = oSeq
  · subst h1; decide
  by_cases h2 : op = oSet
  · subst h2; decide
  by_cases h3 : op = oEq
  · subst h3; decide
  by_cases h4 : op = oLess
  · subst h4; decide
  by_cases h5 : op = oCons
  · subst h5; decide
  by_cases h6 : op = oAdd
  · subst h6; decide
  by_cases h7 : op = oSub
  · subst h7; decide
  by_cases h8 : op = oCat
  · subst h8; decide
  by_cases h9 : op = oMul
  · subst h9; decide
  by_cases h10 : op = oApp
  · subst h10; decide
  simp [h1, h2, h3, h4, h5, h6, h7, h8, h9, h10] at h
theorem sign_two {op : List Int} (h : signOf op ≠ []) : kidsN op = 2 := by
  have key : ∀ q ∈ signL, kidsN q.1 = 2 := by decide
  exact key _ (sign_mem h)
theorem sign_len (op : List Int) : (signOf op).length ≤ 4 := by
  by_cases h : signOf op = []
  · rw [h]; simp
  · have key : ∀ q ∈ signL, q.2.length ≤ 4 := by decide
    exact key _ (sign_mem h)
theorem sign_ne {op : List Int} (h : signOf op ≠ []) : ((Em.str (signOf op)).toList == []) = false := by
  have key : ∀ q ∈ signL, ∀ x ∈ q.2, 0 ≤ x ∧ x ≤ 255 := by decide
  rw [Em5.str_eq (key _ (sign_mem h)) []]
  simpa using h

/-! ### How long -/
def tot : List (List Int) → Nat | [] => 0 | t :: r => t.length + tot r
theorem tx_tot (ts : List (List Int)) : (tx ts 0).length + (tx ts 1).length + (tx ts 2).length ≤ tot ts := by
  match ts with
  | [] => simp [tx]
  | [a] => simp [tx, tot]
  | [a, b] => simp [tx, tot]
  | a :: b :: c :: r => simp [tx, tot]; omega
theorem flat_tot : ∀ ts : List (List Int), (ts.flatMap (fun t => 32 :: t)).length = tot ts + ts.length
  | [] => rfl
  | a :: r => by
    have := flat_tot r
    simp only [List.flatMap_cons, List.length_append, List.length_cons, tot] at this ⊢
    omega
theorem inner_len {op nm ar : List Int} (ts : List (List Int)) (h1 : op.length ≤ 5) (h2 : nm.length ≤ 40) (h3 : ar.length ≤ 40) (h4 : ts.length ≤ 3) : (innerB op nm ar ts).length ≤ tot ts + 130 := by
  have a := tx_tot ts
  have b := sign_len op
  have c := flat_tot ts
  unfold innerB
  split
  · simp only [List.length_append]; omega
  · split
    · simp only [List.length_append, List.length_cons, List.length_nil]; omega
    · split
      · simp only [List.length_append, List.length_cons, List.length_nil]; omega
      · split
        · simp only [List.length_append, List.length_cons, List.length_nil]; omega
        · split
          · simp only [List.length_append, List.length_cons, List.length_nil]; omega
          · split
            · simp only [List.length_append, List.length_cons, List.length_nil]; omega
            · split
              · simp only [List.length_append, List.length_cons, List.length_nil]; omega
              · simp only [List.length_append, c]; omega
theorem textB_len {op nm ar : List Int} {n : Int} (ts : List (List Int)) (h1 : op.length ≤ 5) (h2 : nm.length ≤ 40) (h3 : ar.length ≤ 40) (h4 : ts.length ≤ 3) (hn : n ≤ 9223372036854775807) : (textB op nm ar n ts).length ≤ tot ts + 140 := by
  have a := tx_tot ts
  have b := inner_len (op := op) (nm := nm) (ar := ar) ts h1 h2 h3 h4
  have d := (digs_len (n := n.toNat) (by omega)).1
  unfold textB
  split
  · omega
  · split
    · split <;> simp
    · split
      · simp
      · split
        · simp
        · split
          · simp only [List.length_append, List.length_cons, List.length_nil]; omega
          · split
            · omega
            · split
              · simp only [List.length_append, List.length_cons, List.length_nil]; omega
              · split
                · simp only [List.length_append, List.length_cons, List.length_nil]; omega
                · simp only [List.length_append, List.length_cons, List.length_nil]; omega
theorem num_bd {op : List Int} {n : Int} (h : numOk op n = true) : 0 ≤ n ∧ n ≤ 999999999999999999 := by
  unfold numOk at h
  split at h
  · simp at h; exact h
  · split at h
    · simp at h; omega
    · simp at h; omega
theorem each_num {op nm ar : List Int} {n p : Int} {l : List Nd} (h : each (.mk op nm ar n p l) = true) : 0 ≤ n ∧ n ≤ 999999999999999999 := by
  simp only [each, Bool.and_eq_true, decide_eq_true_eq, namesOk, Nd.op, Nd.nm, Nd.ar, Nd.n] at h
  exact num_bd h.2.1.2.2
theorem texts_length (l : List Nd) : (texts l).length = l.length := by rw [texts_map]; simp
theorem tot_le : ∀ (l : List Nd), (∀ t ∈ l, (text t).length ≤ 150 * t.size) → tot (texts l) ≤ 150 * sizes l
  | [], _ => by simp [texts, tot]
  | t :: r, h => by
    have h1 := h t (by simp)
    have h2 := tot_le r (fun t ht => h t (by simp [ht]))
    simp only [texts, tot, sizes]
    omega
theorem text_len : ∀ t : Nd, each t = true → (text t).length ≤ 150 * t.size := by
  intro t
  induction t using Nd.ind with
  | h op nm ar n p l ih =>
    intro he
    obtain ⟨h1, h2, h3, h4⟩ := each_cases he
    have h5 := (kids_five (op := op) (by omega)).2
    have h6 := textB_len (op := op) (nm := nm) (ar := ar) (n := n) (texts l) h1 h2 h3 (by rw [texts_length]; omega) (by have := each_num he; omega)
    have h7 := tot_le l (fun t ht => ih t ht (each_kids he t ht))
    rw [text, Nd.size]
    omega
theorem tot_big : ∀ (l : List Nd), (∀ t ∈ l, (text t).length ≤ 300000) → tot (texts l) ≤ 300000 * l.length
  | [], _ => by simp [texts, tot]
  | t :: r, h => by
    have h1 := h t (by simp)
    have h2 := tot_big r (fun t ht => h t (by simp [ht]))
    simp only [texts, tot, List.length_cons]
    omega
theorem size_mem : ∀ (l : List Nd) (t : Nd), t ∈ l → t.size ≤ sizes l
  | [], t, h => by simp at h
  | a :: r, t, h => by
    simp only [sizes]
    rcases List.mem_cons.1 h with rfl | h
    · omega
    · have := size_mem r t h; omega
end Go.Em7

namespace Go.Em7
open Go.RowKit Go.Em4 Go.Em5

/-- A token without its place. -/
abbrev K := Int × List Int × Int
def er (t : Tok) : K := (t.kind, t.text, t.num)
def elexF : Nat → List Int → Option (List K)
  | _, [] => some [(5, [], 0)]
  | 0, _ :: _ => some []
  | f + 1, c :: r =>
    if Em4.blank c then elexF f r
    else match tokAt (c :: r) with
      | none => none
      | some (k, t, n, m) => (elexF f ((c :: r).drop m)).map ((k, t, n) :: ·)
def elex (L : List Int) : Option (List K) := elexF L.length L
theorem toksF_er : ∀ (f i : Nat) (L : List Int), (match toksF f i L with | .error _ => none | .ok T => some (T.map er)) = elexF f L
  | f, i, [] => by cases f <;> rfl
  | 0, i, c :: r => rfl
  | f + 1, i, c :: r => by
    simp only [toksF, elexF]
    by_cases hb : Em4.blank c = true
    · rw [if_pos hb, if_pos hb]; exact toksF_er f (i + 1) r
    · rw [if_neg hb, if_neg hb]
      cases ht : tokAt (c :: r) with
      | none => rfl
      | some q =>
        obtain ⟨k, t, n, m⟩ := q
        have := toksF_er f (i + m) ((c :: r).drop m)
        simp only
        rw [← this]
        cases toksF f (i + m) ((c :: r).drop m) <;> simp [er]
theorem toks_er (L : List Int) : (match toks L with | .error _ => none | .ok T => some (T.map er)) = elex L := toksF_er _ _ _
theorem elexF_more : ∀ (f g : Nat) (L : List Int), L.length ≤ f → L.length ≤ g → elexF f L = elexF g L
  | f, g, [], _, _ => by cases f <;> cases g <;> rfl
  | 0, _, c :: r, h, _ => by simp at h
  | _ + 1, 0, c :: r, _, h => by simp at h
  | f + 1, g + 1, c :: r, h1, h2 => by
    simp only [List.length_cons] at h1 h2
    simp only [elexF]
    by_cases hb : Em4.blank c = true
    · rw [if_pos hb, if_pos hb]; exact elexF_more f g r (by omega) (by omega)
    · rw [if_neg hb, if_neg hb]
      cases ht : tokAt (c :: r) with
      | none => rfl
      | some q =>
        obtain ⟨k, t, n, m⟩ := q
        have := tokAt_pos ht
        simp only
        rw [elexF_more f g ((c :: r).drop m) (by simp; omega) (by simp; omega)]
theorem elex_blank {c : Int} (r : List Int) (h : Em4.blank c = true) : elex (c :: r) = elex r := by
  show elexF (r.length + 1) (c :: r) = _
  simp only [elexF]
  rw [if_pos h]
  rfl
/-- A piece that is a token. -/
theorem elex_piece {r : List Int} {k n : Int} {t : List Int} {c : Int} {q : List Int} (hb : Em4.blank c = false) (h : tokAt (c :: q ++ r) = some (k, t, n, (c :: q).length)) : elex (c :: q ++ r) = (elex r).map ((k, t, n) :: ·) := by
  have e : elex (c :: q ++ r) = elexF ((q ++ r).length + 1) (c :: (q ++ r)) := by simp [elex]
  rw [e]
  simp only [elexF]
  rw [if_neg (by rw [hb]; decide)]
  rw [show c :: (q ++ r) = c :: q ++ r from rfl, h]
  simp only
  have e2 : (c :: q ++ r).drop (c :: q).length = r := by simp
  rw [e2, elexF_more (q ++ r).length r.length r (by simp) (Nat.le_refl _)]
  rfl
/-- What stands behind a name or a number does not make it longer. -/
def Stop (r : List Int) : Prop := ∀ c q, r = c :: q → nmc c = false
theorem span_app {p : Int → Bool} : ∀ (L r : List Int), (∀ x ∈ L, p x = true) → (∀ c q, r = c :: q → p c = false) → span p (L ++ r) = L.length
  | [], r, _, h => by
    cases r with
    | nil => rfl
    | cons c q => simp [span, h c q rfl]
  | a :: L, r, h1, h2 => by
    simp only [List.cons_append, span]
    rw [if_pos (h1 a (by simp)), span_app L r (fun x hx => h1 x (by simp [hx])) h2]
    rfl
theorem ltr_facts {c : Int} (h : ltr c = true) : Em4.blank c = false ∧ dgt c = false ∧ nmc c = true := by
  unfold ltr at h
  simp at h
  refine ⟨?_, ?_, ?_⟩
  · unfold Em4.blank; simp; omega
  · unfold dgt; simp; omega
  · unfold nmc ltr; simp; left; omega
/-- A word or a name. -/
theorem lex_name {c : Int} {q r : List Int} (hc : ltr c = true) (hq : ∀ x ∈ q, nmc x = true) (hr : Stop r) : tokAt (c :: q ++ r) = (let p := c :: q; if p ∈ words then some (4, p, 0, p.length) else if 12 < p.length then none else some (1, p, 0, p.length)) := by
  have e1 : span nmc (q ++ r) = q.length := span_app q r hq hr
  have e2 : (c :: q ++ r).take (1 + q.length) = c :: q := by
    rw [show 1 + q.length = (c :: q).length by simp; omega]
    exact List.take_left
  show tokAt (c :: (q ++ r)) = _
  simp only [tokAt]
  rw [if_pos hc]
  simp only [nameAt, List.drop_succ_cons, List.drop_zero]
  rw [e1]
  have e3 : (c :: (q ++ r)).take (1 + q.length) = c :: q := e2
  rw [e3]
  simp only [List.length_cons]
  rw [Nat.add_comm q.length 1]
theorem elex_word {c : Int} {q r : List Int} (hc : ltr c = true) (hq : ∀ x ∈ q, nmc x = true) (hr : Stop r) (hw : c :: q ∈ words) : elex (c :: q ++ r) = (elex r).map ((4, c :: q, 0) :: ·) :=
  elex_piece (ltr_facts hc).1 (by rw [lex_name hc hq hr]; simp only; rw [if_pos hw])
theorem elex_name {c : Int} {q r : List Int} (hc : ltr c = true) (hq : ∀ x ∈ q, nmc x = true) (hr : Stop r) (hw : ¬ c :: q ∈ words) (hl : (c :: q).length ≤ 12) : elex (c :: q ++ r) = (elex r).map ((1, c :: q, 0) :: ·) :=
  elex_piece (ltr_facts hc).1 (by rw [lex_name hc hq hr]; simp only; rw [if_neg hw, if_neg (by omega)])
/-- A whole name, by the document's word on names. -/
theorem elex_nameOk {L r : List Int} (h : nameOk L = true) (hr : Stop r) : elex (L ++ r) = (elex r).map ((1, L, 0) :: ·) := by
  unfold nameOk at h
  split at h
  · cases h
  · rename_i c q
    simp only [Bool.and_eq_true] at h
    obtain ⟨hc, h⟩ := h
    cases hn : nameAt (c :: q) with
    | none => rw [hn] at h; simp at h
    | some z =>
      obtain ⟨k, x, y, m⟩ := z
      rw [hn] at h
      simp only [Bool.and_eq_true, decide_eq_true_eq] at h
      obtain ⟨hk, hm⟩ := h
      simp only [nameAt, List.drop_succ_cons, List.drop_zero] at hn
      split at hn
      · simp only [Option.some.injEq, Prod.mk.injEq] at hn; omega
      · split at hn
        · cases hn
        · rename_i h1 h2
          simp only [Option.some.injEq, Prod.mk.injEq] at hn
          have hsp : span nmc q = q.length := by simp only [List.length_cons] at hm; omega
          have htk : (c :: q).take (1 + span nmc q) = c :: q := by rw [hsp, List.take_of_length_le (by simp; omega)]
          rw [htk] at h1
          refine elex_name hc (fun x hx => ?_) hr h1 (by simp only [List.length_cons]; omega)
          obtain ⟨j, hj, e⟩ := List.getElem_of_mem hx
          have := span_all nmc q j (by omega)
          rw [List.getElem?_eq_getElem hj] at this
          rw [← e]; exact this
end Go.Em7

namespace Go.Em7
open Go.RowKit Go.Em4 Go.Em5

theorem nmc_dgt {c : Int} (h : nmc c = false) : dgt c = false := by
  unfold nmc at h
  simp only [Bool.or_eq_false_iff] at h
  exact h.2.1
theorem dec_digs : ∀ (f n : Nat), n < 10 ^ (f + 1) → dec (digsF f n) = n
  | 0, n, h => by
    have : n % 10 = n := Nat.mod_eq_of_lt (by simpa using h)
    simp [digsF, dec]; omega
  | f + 1, n, h => by
    simp only [digsF]
    by_cases h10 : n < 10
    · rw [if_pos h10]; simp [dec]; omega
    · rw [if_neg h10]
      have h1 : n / 10 < 10 ^ (f + 1) := by
        rw [Nat.div_lt_iff_lt_mul (by omega)]
        rw [Nat.pow_succ] at h
        exact h
      rw [dec_snoc, dec_digs f (n / 10) h1]
      omega
theorem head_digs : ∀ (f n : Nat), 0 < n → n < 10 ^ (f + 1) → (digsF f n).head? ≠ some 48
  | 0, n, h0, h => by simp [digsF]; simp at h; omega
  | f + 1, n, h0, h => by
    simp only [digsF]
    by_cases h10 : n < 10
    · rw [if_pos h10]; simp; omega
    · rw [if_neg h10]
      have h1 : n / 10 < 10 ^ (f + 1) := by
        rw [Nat.div_lt_iff_lt_mul (by omega)]
        rw [Nat.pow_succ] at h
        exact h
      have h2 := head_digs f (n / 10) (by omega) h1
      have h3 := (digsF_len f (n / 10) h1).2
      cases hd : digsF f (n / 10) with
      | nil => rw [hd] at h3; simp at h3
      | cons a r => rw [hd] at h2; simpa using h2
/-- A number. -/
theorem elex_num {n : Nat} {r : List Int} (hn : n ≤ 999999999999999999) (hr : Stop r) : elex (digs n ++ r) = (elex r).map ((2, [], (n : Int)) :: ·) := by
  have e17 : digs n = digsF 17 n := digsF_more 20 17 n (by omega) (by omega)
  have hl := digsF_len 17 n (by omega)
  have hdec := dec_digs 17 n (by omega)
  have hmem := digsF_mem 17 n
  have hhead : 1 < (digsF 17 n).length → (digsF 17 n).head? ≠ some 48 := fun h => by
    by_cases h0 : 0 < n
    · exact head_digs 17 n h0 (by omega)
    · have : n = 0 := by omega
      subst this
      simp [digsF] at h
  rw [e17]
  generalize digsF 17 n = p at *
  cases p with
  | nil => simp at hl
  | cons c q =>
    have hc := hmem c (by simp)
    have hdg : ∀ x ∈ c :: q, dgt x = true := fun x hx => by have := hmem x hx; unfold dgt; simp; omega
    have hsp : span dgt (c :: q ++ r) = (c :: q).length := span_app (c :: q) r hdg (fun a b e => nmc_dgt (hr a b e))
    refine elex_piece (by unfold Em4.blank; simp; omega) ?_
    show tokAt (c :: (q ++ r)) = _
    simp only [tokAt]
    rw [if_neg (by unfold ltr; simp; omega), if_pos (hdg c (by simp))]
    have e1 : c :: (q ++ r) = c :: q ++ r := rfl
    simp only [numAt]
    rw [e1, hsp, List.take_left, hdec]
    rw [if_neg]
    rintro (h | ⟨h1, h2⟩)
    · omega
    · exact hhead h1 (by simpa using h2)
/-- A string. -/
theorem elex_str {L r : List Int} (h : textOk L = true) : elex (34 :: L ++ [34] ++ r) = (elex r).map ((3, L, 0) :: ·) := by
  have e0 : (34 :: L ++ [34] ++ r : List Int) = 34 :: (L ++ [34]) ++ r := by simp
  rw [e0]
  have hall : ∀ x ∈ L, (!decide (x = 34)) = true := by
    unfold textOk at h
    simp only [Bool.and_eq_true, List.all_eq_true] at h
    intro x hx
    have := h.1 x hx
    unfold prn at this
    simp only [Bool.and_eq_true] at this
    exact this.2.2
  refine elex_piece (by decide) ?_
  have hsp : span (fun c => !decide (c = 34)) (L ++ (34 :: r)) = L.length := span_app L (34 :: r) hall (fun c q e => by injection e with e1 e2; subst e1; rfl)
  show tokAt (34 :: (L ++ [34] ++ r)) = _
  simp only [tokAt]
  rw [if_neg (by decide), if_neg (by decide), if_pos trivial]
  simp only [strAt, List.drop_succ_cons, List.drop_zero, List.append_assoc, List.singleton_append]
  rw [hsp]
  have e2 : (L ++ 34 :: r).take L.length = L := List.take_left
  rw [e2, if_neg]
  · simp
  · rintro (h1 | h1)
    · simp at h1
    · rw [h] at h1; cases h1
theorem elex_sign {c : Int} {q r : List Int} (h : tokAt (c :: q ++ r) = some (4, c :: q, 0, (c :: q).length)) (hb : Em4.blank c = false) : elex (c :: q ++ r) = (elex r).map ((4, c :: q, 0) :: ·) := elex_piece hb h
theorem lex_lp (r : List Int) : elex (40 :: r) = (elex r).map ((4, [40], 0) :: ·) := elex_sign (q := []) rfl rfl
theorem lex_rp (r : List Int) : elex (41 :: r) = (elex r).map ((4, [41], 0) :: ·) := elex_sign (q := []) rfl rfl
theorem lex_lb (r : List Int) : elex (91 :: r) = (elex r).map ((4, [91], 0) :: ·) := elex_sign (q := []) rfl rfl
theorem lex_rb (r : List Int) : elex (93 :: r) = (elex r).map ((4, [93], 0) :: ·) := elex_sign (q := []) rfl rfl
theorem lex_comma (r : List Int) : elex (44 :: r) = (elex r).map ((4, [44], 0) :: ·) := elex_sign (q := []) rfl rfl
theorem lex_semi (r : List Int) : elex (59 :: r) = (elex r).map ((4, [59], 0) :: ·) := elex_sign (q := []) rfl rfl
theorem lex_eq (r : List Int) : elex (61 :: r) = (elex r).map ((4, [61], 0) :: ·) := elex_sign (q := []) rfl rfl
theorem lex_lt (r : List Int) : elex (60 :: r) = (elex r).map ((4, [60], 0) :: ·) := elex_sign (q := []) rfl rfl
theorem lex_plus (r : List Int) : elex (43 :: r) = (elex r).map ((4, [43], 0) :: ·) := elex_sign (q := []) rfl rfl
theorem lex_star (r : List Int) : elex (42 :: r) = (elex r).map ((4, [42], 0) :: ·) := elex_sign (q := []) rfl rfl
theorem lex_hat (r : List Int) : elex (94 :: r) = (elex r).map ((4, [94], 0) :: ·) := elex_sign (q := []) rfl rfl
theorem lex_bang (r : List Int) : elex (33 :: r) = (elex r).map ((4, [33], 0) :: ·) := elex_sign (q := []) rfl rfl
theorem lex_bar (r : List Int) : elex (124 :: r) = (elex r).map ((4, [124], 0) :: ·) := elex_sign (q := []) rfl rfl
theorem lex_minus (r : List Int) : elex (45 :: 32 :: r) = (elex (32 :: r)).map ((4, [45], 0) :: ·) := elex_sign (q := []) rfl rfl
theorem lex_arrow (r : List Int) : elex (45 :: 62 :: r) = (elex r).map ((4, [45, 62], 0) :: ·) := elex_sign (q := [62]) rfl rfl
theorem lex_set (r : List Int) : elex (58 :: 61 :: r) = (elex r).map ((4, [58, 61], 0) :: ·) := elex_sign (q := [61]) rfl rfl
theorem lex_cons (r : List Int) : elex (58 :: 58 :: r) = (elex r).map ((4, [58, 58], 0) :: ·) := elex_sign (q := [58]) rfl rfl
theorem lex_sp (r : List Int) : elex (32 :: r) = elex r := elex_blank r rfl
end Go.Em7

namespace Go.Em7
open Go.RowKit Go.Em4 Go.Em5

def wd (s : List Int) : K := (4, s, 0)
def nmT (s : List Int) : K := (1, s, 0)
def kx (ks : List (List K)) (i : Nat) : List K := ks[i]?.getD []
/-- The tokens between two kids. -/
def signT (op : List Int) : List K :=
  if op = oSeq then [wd [59]] else if op = oSet then [wd [58, 61]] else if op = oEq then [wd [61]] else if op = oLess then [wd [60]] else if op = oCons then [wd [58, 58]] else if op = oAdd then [wd [43]] else if op = oSub then [wd [45]] else if op = oCat then [wd [94]] else if op = oMul then [wd [42]] else []
def innerT (op nm ar : List Int) (ks : List (List K)) : List K :=
  if signOf op ≠ [] then kx ks 0 ++ signT op ++ kx ks 1
  else if op = oFun then wd [102, 117, 110] :: nmT nm :: wd [45, 62] :: kx ks 0
  else if op = oLet then wd [108, 101, 116] :: nmT nm :: wd [61] :: (kx ks 0 ++ wd [105, 110] :: kx ks 1)
  else if op = oRec then wd [108, 101, 116] :: wd [114, 101, 99] :: nmT nm :: nmT ar :: wd [61] :: (kx ks 0 ++ wd [105, 110] :: kx ks 1)
  else if op = oIf then wd [105, 102] :: (kx ks 0 ++ wd [116, 104, 101, 110] :: (kx ks 1 ++ wd [101, 108, 115, 101] :: kx ks 2))
  else if op = oMatch then wd [109, 97, 116, 99, 104] :: (kx ks 0 ++ wd [119, 105, 116, 104] :: wd [91] :: wd [93] :: wd [45, 62] :: (kx ks 1 ++ wd [124] :: nmT nm :: wd [58, 58] :: nmT ar :: wd [45, 62] :: kx ks 2))
  else if op = oTry then wd [116, 114, 121] :: (kx ks 0 ++ wd [119, 105, 116, 104] :: nmT nm :: wd [45, 62] :: kx ks 1)
  else wd op :: ks.flatten
def tkB (op nm ar : List Int) (n : Int) (ks : List (List K)) : List K :=
  if op = oInt then [(2, [], n)]
  else if op = oBool then (if n = 1 then [wd [116, 114, 117, 101]] else [wd [102, 97, 108, 115, 101]])
  else if op = oUnit then [wd [40], wd [41]]
  else if op = oNil then [wd [91], wd [93]]
  else if op = oStr then [(3, nm, 0)]
  else if op = oVar then [nmT nm]
  else if op = oPair then wd [40] :: (kx ks 0 ++ wd [44] :: (kx ks 1 ++ [wd [41]]))
  else if op = oGet then wd [33] :: kx ks 0
  else wd [40] :: (innerT op nm ar ks ++ [wd [41]])
mutual
/-- An expression's tokens. -/
def tk : Nd → List K | .mk op nm ar n _ l => tkB op nm ar n (tks l)
def tks : List Nd → List (List K) | [] => [] | t :: r => tk t :: tks r
end
theorem tks_map : ∀ l, tks l = l.map tk
  | [] => rfl
  | t :: r => by simp [tks, tks_map r]
theorem tks_get (l : List Nd) (j : Nat) (t : Nd) (h : l[j]? = some t) : kx (tks l) j = tk t := by
  rw [tks_map, kx, List.getElem?_map, h]; rfl

/-- A text whose tokens are these, whatever stops it. -/
def Lx (L : List Int) (ts : List K) : Prop := ∀ r, Stop r → elex (L ++ r) = (elex r).map (ts ++ ·)
theorem map_cons (o : Option (List K)) (k : K) (ts : List K) : (o.map (ts ++ ·)).map (k :: ·) = o.map ((k :: ts) ++ ·) := by cases o <;> rfl
theorem map_app (o : Option (List K)) (ts us : List K) : (o.map (us ++ ·)).map (ts ++ ·) = o.map ((ts ++ us) ++ ·) := by cases o <;> simp
theorem stop_sp (r : List Int) : Stop (32 :: r) := fun c q e => by injection e with e1 e2; subst e1; rfl
theorem stop_rp (r : List Int) : Stop (41 :: r) := fun c q e => by injection e with e1 e2; subst e1; rfl
theorem stop_comma (r : List Int) : Stop (44 :: r) := fun c q e => by injection e with e1 e2; subst e1; rfl
theorem stop_semi (r : List Int) : Stop (59 :: r) := fun c q e => by injection e with e1 e2; subst e1; rfl
theorem stop_nil : Stop [] := fun c q e => by cases e
/-- A word of the language, and a blank. -/
theorem word_sp {s : List Int} (hs : s ∈ words) (r : List Int) : elex (s ++ 32 :: r) = (elex r).map (wd s :: ·) := by
  have key : ∀ s ∈ words, s ≠ [] ∧ ltr (s.headD 0) = true ∧ ∀ x ∈ s.tail, nmc x = true := by decide
  obtain ⟨h0, h1, h2⟩ := key s hs
  cases s with
  | nil => exact absurd rfl h0
  | cons c q =>
    rw [elex_word (c := c) (q := q) h1 h2 (stop_sp r) hs, lex_sp]
    rfl
theorem word_stop {s : List Int} (hs : s ∈ words) {r : List Int} (hr : Stop r) : elex (s ++ r) = (elex r).map (wd s :: ·) := by
  have key : ∀ s ∈ words, s ≠ [] ∧ ltr (s.headD 0) = true ∧ ∀ x ∈ s.tail, nmc x = true := by decide
  obtain ⟨h0, h1, h2⟩ := key s hs
  cases s with
  | nil => exact absurd rfl h0
  | cons c q =>
    rw [elex_word (c := c) (q := q) h1 h2 hr hs]
    rfl
theorem name_sp {s : List Int} (hs : nameOk s = true) (r : List Int) : elex (s ++ 32 :: r) = (elex r).map (nmT s :: ·) := by
  rw [elex_nameOk hs (stop_sp r), lex_sp]
  rfl
theorem len_one {α : Type} {l : List α} (h : l.length = 1) : ∃ x, l = [x] := by
  match l, h with
  | [x], _ => exact ⟨x, rfl⟩
theorem len_two {α : Type} {l : List α} (h : l.length = 2) : ∃ x y, l = [x, y] := by
  match l, h with
  | [x, y], _ => exact ⟨x, y, rfl⟩
theorem len_three {α : Type} {l : List α} (h : l.length = 3) : ∃ x y z, l = [x, y, z] := by
  match l, h with
  | [x, y, z], _ => exact ⟨x, y, z, rfl⟩
/-- What the document asks of a node, taken apart. -/
theorem each_parts {op nm ar : List Int} {n p : Int} {l : List Nd} (h : each (.mk op nm ar n p l) = true) : kidsN op = l.length ∧ nameA op nm = true ∧ nameB op ar = true ∧ numOk op n = true := by
  simp only [each, Bool.and_eq_true, decide_eq_true_eq, namesOk, Nd.op, Nd.nm, Nd.ar, Nd.n] at h
  exact ⟨h.1, h.2.1.1, h.2.1.2.1, h.2.1.2.2⟩
theorem flat_lex : ∀ (l : List Nd), (∀ t ∈ l, Lx (text t) (tk t)) → ∀ r, Stop r → elex ((texts l).flatMap (fun t => 32 :: t) ++ r) = (elex r).map ((tks l).flatten ++ ·)
  | [], _, r, _ => by simp [texts, tks]
  | t :: l, h, r, hr => by
    have hs : Stop ((texts l).flatMap (fun t => 32 :: t) ++ r) := by
      cases l with
      | nil => simpa [texts] using hr
      | cons a l => simp only [texts, List.flatMap_cons, List.cons_append]; exact stop_sp _
    simp only [texts, tks, List.flatMap_cons, List.cons_append, List.append_assoc, List.flatten_cons]
    rw [lex_sp, h t (by simp) _ hs, flat_lex l (fun t ht => h t (by simp [ht])) r hr]
    cases elex r <;> simp
theorem lx_sign {op : List Int} {x y : Nd} (hx : Lx (text x) (tk x)) (hy : Lx (text y) (tk y)) (hs : signOf op ≠ []) : Lx (text x ++ signOf op ++ text y) (tk x ++ signT op ++ tk y) := by
  intro r hr
  have hm := sign_mem hs
  simp only [signL, List.mem_cons, Prod.mk.injEq, List.not_mem_nil, or_false] at hm
  rcases hm with ⟨h1, h2⟩ | ⟨h1, h2⟩ | ⟨h1, h2⟩ | ⟨h1, h2⟩ | ⟨h1, h2⟩ | ⟨h1, h2⟩ | ⟨h1, h2⟩ | ⟨h1, h2⟩ | ⟨h1, h2⟩ | ⟨h1, h2⟩
  · have e : signT op = [wd [59]] := by subst h1; decide
    rw [h2, e]
    simp only [List.append_assoc, List.cons_append, List.nil_append]
    rw [hx _ (stop_semi _), lex_semi, lex_sp, hy _ hr]
    cases elex r <;> simp [wd]
  · have e : signT op = [wd [58, 61]] := by subst h1; decide
    rw [h2, e]
    simp only [List.append_assoc, List.cons_append, List.nil_append]
    rw [hx _ (stop_sp _), lex_sp, lex_set, lex_sp, hy _ hr]
    cases elex r <;> simp [wd]
  · have e : signT op = [wd [61]] := by subst h1; decide
    rw [h2, e]
    simp only [List.append_assoc, List.cons_append, List.nil_append]
    rw [hx _ (stop_sp _), lex_sp, lex_eq, lex_sp, hy _ hr]
    cases elex r <;> simp [wd]
  · have e : signT op = [wd [60]] := by subst h1; decide
    rw [h2, e]
    simp only [List.append_assoc, List.cons_append, List.nil_append]
    rw [hx _ (stop_sp _), lex_sp, lex_lt, lex_sp, hy _ hr]
    cases elex r <;> simp [wd]
  · have e : signT op = [wd [58, 58]] := by subst h1; decide
    rw [h2, e]
    simp only [List.append_assoc, List.cons_append, List.nil_append]
    rw [hx _ (stop_sp _), lex_sp, lex_cons, lex_sp, hy _ hr]
    cases elex r <;> simp [wd]
  · have e : signT op = [wd [43]] := by subst h1; decide
    rw [h2, e]
    simp only [List.append_assoc, List.cons_append, List.nil_append]
    rw [hx _ (stop_sp _), lex_sp, lex_plus, lex_sp, hy _ hr]
    cases elex r <;> simp [wd]
  · have e : signT op = [wd [45]] := by subst h1; decide
    rw [h2, e]
    simp only [List.append_assoc, List.cons_append, List.nil_append]
    rw [hx _ (stop_sp _), lex_sp, lex_minus, lex_sp, hy _ hr]
    cases elex r <;> simp [wd]
  · have e : signT op = [wd [94]] := by subst h1; decide
    rw [h2, e]
    simp only [List.append_assoc, List.cons_append, List.nil_append]
    rw [hx _ (stop_sp _), lex_sp, lex_hat, lex_sp, hy _ hr]
    cases elex r <;> simp [wd]
  · have e : signT op = [wd [42]] := by subst h1; decide
    rw [h2, e]
    simp only [List.append_assoc, List.cons_append, List.nil_append]
    rw [hx _ (stop_sp _), lex_sp, lex_star, lex_sp, hy _ hr]
    cases elex r <;> simp [wd]
  · have e : signT op = [] := by subst h1; decide
    rw [h2, e]
    simp only [List.append_assoc, List.cons_append, List.nil_append]
    rw [hx _ (stop_sp _), lex_sp, hy _ hr]
    cases elex r <;> simp
end Go.Em7

namespace Go.Em7
open Go.RowKit Go.Em4 Go.Em5
set_option linter.unusedSimpArgs false

theorem lex_fun (r : List Int) : elex (102 :: 117 :: 110 :: 32 :: r) = (elex r).map (wd [102, 117, 110] :: ·) := word_sp (s := [102, 117, 110]) (by decide) r
theorem lex_let (r : List Int) : elex (108 :: 101 :: 116 :: 32 :: r) = (elex r).map (wd [108, 101, 116] :: ·) := word_sp (s := [108, 101, 116]) (by decide) r
theorem lex_rec (r : List Int) : elex (114 :: 101 :: 99 :: 32 :: r) = (elex r).map (wd [114, 101, 99] :: ·) := word_sp (s := [114, 101, 99]) (by decide) r
theorem lex_in (r : List Int) : elex (105 :: 110 :: 32 :: r) = (elex r).map (wd [105, 110] :: ·) := word_sp (s := [105, 110]) (by decide) r
theorem lex_if (r : List Int) : elex (105 :: 102 :: 32 :: r) = (elex r).map (wd [105, 102] :: ·) := word_sp (s := [105, 102]) (by decide) r
theorem lex_then (r : List Int) : elex (116 :: 104 :: 101 :: 110 :: 32 :: r) = (elex r).map (wd [116, 104, 101, 110] :: ·) := word_sp (s := [116, 104, 101, 110]) (by decide) r
theorem lex_else (r : List Int) : elex (101 :: 108 :: 115 :: 101 :: 32 :: r) = (elex r).map (wd [101, 108, 115, 101] :: ·) := word_sp (s := [101, 108, 115, 101]) (by decide) r
theorem lex_match (r : List Int) : elex (109 :: 97 :: 116 :: 99 :: 104 :: 32 :: r) = (elex r).map (wd [109, 97, 116, 99, 104] :: ·) := word_sp (s := [109, 97, 116, 99, 104]) (by decide) r
theorem lex_with (r : List Int) : elex (119 :: 105 :: 116 :: 104 :: 32 :: r) = (elex r).map (wd [119, 105, 116, 104] :: ·) := word_sp (s := [119, 105, 116, 104]) (by decide) r
theorem lex_try (r : List Int) : elex (116 :: 114 :: 121 :: 32 :: r) = (elex r).map (wd [116, 114, 121] :: ·) := word_sp (s := [116, 114, 121]) (by decide) r

theorem inner_lex {op nm ar : List Int} {n p : Int} {l : List Nd} (he : each (.mk op nm ar n p l) = true) (ih : ∀ t ∈ l, Lx (text t) (tk t))
    (hx : op ∉ [oInt, oBool, oUnit, oNil, oStr, oVar, oPair, oGet]) : Lx (innerB op nm ar (texts l)) (innerT op nm ar (tks l)) := by
  obtain ⟨hk, hA, hB, -⟩ := each_parts he
  unfold innerB innerT
  by_cases hs : signOf op ≠ []
  · rw [if_pos hs, if_pos hs]
    obtain ⟨x, y, rfl⟩ := len_two (l := l) (by have := sign_two hs; omega)
    rw [texts_get [x, y] 0 x rfl, texts_get [x, y] 1 y rfl, tks_get [x, y] 0 x rfl, tks_get [x, y] 1 y rfl]
    exact lx_sign (ih x (by simp)) (ih y (by simp)) hs
  rw [if_neg hs, if_neg hs]
  by_cases h1 : op = oFun
  · rw [if_pos h1, if_pos h1]
    subst h1
    have hn : nameOk nm = true := hA
    obtain ⟨x, rfl⟩ := len_one (l := l) (by have e : kidsN oFun = 1 := (by decide); omega)
    rw [texts_get [x] 0 x rfl, tks_get [x] 0 x rfl]
    intro r hr
    simp only [List.append_assoc, List.cons_append, List.nil_append]
    rw [lex_fun, name_sp hn, lex_arrow, lex_sp, ih x (by simp) r hr]
    cases elex r <;> simp [wd]
  rw [if_neg h1, if_neg h1]
  by_cases h2 : op = oLet
  · rw [if_pos h2, if_pos h2]
    subst h2
    have hn : nameOk nm = true := hA
    obtain ⟨x, y, rfl⟩ := len_two (l := l) (by have e : kidsN oLet = 2 := (by decide); omega)
    rw [texts_get [x, y] 0 x rfl, texts_get [x, y] 1 y rfl, tks_get [x, y] 0 x rfl, tks_get [x, y] 1 y rfl]
    intro r hr
    simp only [List.append_assoc, List.cons_append, List.nil_append]
    rw [lex_let, name_sp hn, lex_eq, lex_sp, ih x (by simp) _ (stop_sp _), lex_sp, lex_in, ih y (by simp) r hr]
    cases elex r <;> simp [wd]
  rw [if_neg h2, if_neg h2]
  by_cases h3 : op = oRec
  · rw [if_pos h3, if_pos h3]
    subst h3
    have hn : nameOk nm = true := hA
    have hb : nameOk ar = true := hB
    obtain ⟨x, y, rfl⟩ := len_two (l := l) (by have e : kidsN oRec = 2 := (by decide); omega)
    rw [texts_get [x, y] 0 x rfl, texts_get [x, y] 1 y rfl, tks_get [x, y] 0 x rfl, tks_get [x, y] 1 y rfl]
    intro r hr
    simp only [List.append_assoc, List.cons_append, List.nil_append]
    rw [lex_let, lex_rec, name_sp hn, name_sp hb, lex_eq, lex_sp, ih x (by simp) _ (stop_sp _), lex_sp, lex_in, ih y (by simp) r hr]
    cases elex r <;> simp [wd]
  rw [if_neg h3, if_neg h3]
  by_cases h4 : op = oIf
  · rw [if_pos h4, if_pos h4]
    subst h4
    obtain ⟨x, y, z, rfl⟩ := len_three (l := l) (by have e : kidsN oIf = 3 := (by decide); omega)
    rw [texts_get [x, y, z] 0 x rfl, texts_get [x, y, z] 1 y rfl, texts_get [x, y, z] 2 z rfl, tks_get [x, y, z] 0 x rfl, tks_get [x, y, z] 1 y rfl, tks_get [x, y, z] 2 z rfl]
    intro r hr
    simp only [List.append_assoc, List.cons_append, List.nil_append]
    rw [lex_if, ih x (by simp) _ (stop_sp _), lex_sp, lex_then, ih y (by simp) _ (stop_sp _), lex_sp, lex_else, ih z (by simp) r hr]
    cases elex r <;> simp [wd]
  rw [if_neg h4, if_neg h4]
  by_cases h5 : op = oMatch
  · rw [if_pos h5, if_pos h5]
    subst h5
    have hn : nameOk nm = true := hA
    have hb : nameOk ar = true := hB
    obtain ⟨x, y, z, rfl⟩ := len_three (l := l) (by have e : kidsN oMatch = 3 := (by decide); omega)
    rw [texts_get [x, y, z] 0 x rfl, texts_get [x, y, z] 1 y rfl, texts_get [x, y, z] 2 z rfl, tks_get [x, y, z] 0 x rfl, tks_get [x, y, z] 1 y rfl, tks_get [x, y, z] 2 z rfl]
    intro r hr
    simp only [List.append_assoc, List.cons_append, List.nil_append]
    rw [lex_match, ih x (by simp) _ (stop_sp _), lex_sp, lex_with, lex_lb, lex_rb, lex_sp, lex_arrow, lex_sp, ih y (by simp) _ (stop_sp _), lex_sp, lex_bar, lex_sp, name_sp hn, lex_cons, lex_sp, name_sp hb, lex_arrow, lex_sp, ih z (by simp) r hr]
    cases elex r <;> simp [wd]
  rw [if_neg h5, if_neg h5]
  by_cases h6 : op = oTry
  · rw [if_pos h6, if_pos h6]
    subst h6
    have hn : nameOk nm = true := hA
    obtain ⟨x, y, rfl⟩ := len_two (l := l) (by have e : kidsN oTry = 2 := (by decide); omega)
    rw [texts_get [x, y] 0 x rfl, texts_get [x, y] 1 y rfl, tks_get [x, y] 0 x rfl, tks_get [x, y] 1 y rfl]
    intro r hr
    simp only [List.append_assoc, List.cons_append, List.nil_append]
    rw [lex_try, ih x (by simp) _ (stop_sp _), lex_sp, lex_with, name_sp hn, lex_arrow, lex_sp, ih y (by simp) r hr]
    cases elex r <;> simp [wd]
  rw [if_neg h6, if_neg h6]
  have hw : op ∈ words := by
    have hall : op ∈ ops0 ++ ops1 ++ ops2 ++ ops3 := by
      have h0 : 0 ≤ kidsN op := by omega
      unfold kidsN at h0
      by_cases c0 : op ∈ ops0
      · simp [c0]
      · by_cases c1 : op ∈ ops1
        · simp [c1]
        · by_cases c2 : op ∈ ops2
          · simp [c2]
          · by_cases c3 : op ∈ ops3
            · simp [c3]
            · simp [c0, c1, c2, c3] at h0
    have key : ∀ o ∈ ops0 ++ ops1 ++ ops2 ++ ops3, o ∈ words ∨ o ∈ [oInt, oBool, oUnit, oNil, oStr, oVar, oPair, oGet] ∨ signOf o ≠ [] := by decide
    rcases key op hall with h | h | h
    · exact h
    · exact absurd h hx
    · exact absurd h hs
  intro r hr
  have hst : Stop ((texts l).flatMap (fun t => 32 :: t) ++ r) := by
    cases l with
    | nil => simpa [texts] using hr
    | cons a l => simp only [texts, List.flatMap_cons, List.cons_append]; exact stop_sp _
  rw [List.append_assoc, word_stop hw hst, flat_lex l ih r hr]
  cases elex r <;> simp
/-- The tokens of a text. -/
theorem text_lex : ∀ t : Nd, each t = true → Lx (text t) (tk t) := by
  intro t
  induction t using Nd.ind with
  | h op nm ar n p l ih =>
    intro he
    have ih : ∀ t ∈ l, Lx (text t) (tk t) := fun t ht => ih t ht (each_kids he t ht)
    obtain ⟨hk, hA, hB, hN⟩ := each_parts he
    have hnb := each_num he
    rw [text, tk]
    unfold textB tkB
    by_cases h1 : op = oInt
    · rw [if_pos h1, if_pos h1]
      obtain ⟨m, rfl⟩ := Int.eq_ofNat_of_zero_le hnb.1
      intro r hr
      have := elex_num (n := m) (r := r) (by omega) hr
      simpa using this
    rw [if_neg h1, if_neg h1]
    by_cases h2 : op = oBool
    · rw [if_pos h2, if_pos h2]
      intro r hr
      by_cases hn : n = 1
      · rw [if_pos hn, if_pos hn]
        exact word_stop (s := [116, 114, 117, 101]) (by decide) hr
      · rw [if_neg hn, if_neg hn]
        exact word_stop (s := [102, 97, 108, 115, 101]) (by decide) hr
    rw [if_neg h2, if_neg h2]
    by_cases h3 : op = oUnit
    · rw [if_pos h3, if_pos h3]
      intro r _
      simp only [List.cons_append, List.nil_append]
      rw [lex_lp, lex_rp]
      cases elex r <;> simp [wd]
    rw [if_neg h3, if_neg h3]
    by_cases h4 : op = oNil
    · rw [if_pos h4, if_pos h4]
      intro r _
      simp only [List.cons_append, List.nil_append]
      rw [lex_lb, lex_rb]
      cases elex r <;> simp [wd]
    rw [if_neg h4, if_neg h4]
    by_cases h5 : op = oStr
    · rw [if_pos h5, if_pos h5]
      subst h5
      have hn : textOk nm = true := hA
      intro r _
      exact elex_str hn
    rw [if_neg h5, if_neg h5]
    by_cases h6 : op = oVar
    · rw [if_pos h6, if_pos h6]
      subst h6
      have hn : nameOk nm = true := hA
      intro r hr
      exact elex_nameOk hn hr
    rw [if_neg h6, if_neg h6]
    by_cases h7 : op = oPair
    · rw [if_pos h7, if_pos h7]
      subst h7
      obtain ⟨x, y, rfl⟩ := len_two (l := l) (by have e : kidsN oPair = 2 := (by decide); omega)
      rw [texts_get [x, y] 0 x rfl, texts_get [x, y] 1 y rfl, tks_get [x, y] 0 x rfl, tks_get [x, y] 1 y rfl]
      intro r _
      simp only [List.append_assoc, List.cons_append, List.nil_append]
      rw [lex_lp, ih x (by simp) _ (stop_comma _), lex_comma, lex_sp, ih y (by simp) _ (stop_rp _), lex_rp]
      cases elex r <;> simp [wd]
    rw [if_neg h7, if_neg h7]
    by_cases h8 : op = oGet
    · rw [if_pos h8, if_pos h8]
      subst h8
      obtain ⟨x, rfl⟩ := len_one (l := l) (by have e : kidsN oGet = 1 := (by decide); omega)
      rw [texts_get [x] 0 x rfl, tks_get [x] 0 x rfl]
      intro r hr
      simp only [List.append_assoc, List.cons_append, List.nil_append]
      rw [lex_bang, ih x (by simp) r hr]
      cases elex r <;> simp [wd]
    rw [if_neg h8, if_neg h8]
    intro r _
    simp only [List.append_assoc, List.cons_append, List.nil_append]
    rw [lex_lp, inner_lex he ih (by simp [h1, h2, h3, h4, h5, h6, h7, h8]) _ (stop_rp _), lex_rp]
    cases elex r <;> simp [wd]
/-- A shown expression is lexed as its tokens and the End. -/
theorem toks_text {t : Nd} (h : each t = true) : ∃ T, toks (text t) = .ok T ∧ T.map er = tk t ++ [(5, [], 0)] := by
  have h1 := text_lex t h [] stop_nil
  rw [List.append_nil] at h1
  have h2 := toks_er (text t)
  rw [h1] at h2
  cases ht : toks (text t) with
  | error e => rw [ht] at h2; simp [elex, elexF] at h2
  | ok T => rw [ht] at h2; simp [elex, elexF] at h2; exact ⟨T, rfl, h2⟩
end Go.Em7

namespace Go.Em7
open Go.RowKit Go.Em4 Go.Em5 Go.Em6
set_option linter.unusedSimpArgs false

/-- Is the first of them this word? -/
def ew (s : List Int) : List K → Bool | [] => false | k :: _ => decide (k.1 = 4) && decide (k.2.1 = s)
theorem isW_er (s : List Int) (T : List Tok) : isW s T = ew s (T.map er) := by cases T <;> rfl
def ebeg : List K → Bool
  | [] => false
  | k :: _ => if k.1 = 4 then (decide (k.2.1 = [116, 114, 117, 101]) || (decide (k.2.1 = [102, 97, 108, 115, 101]) || (decide (k.2.1 = [33]) || (decide (k.2.1 = [40]) || decide (k.2.1 = [91]))))) else !decide (k.1 = 5)
theorem begins_er (T : List Tok) : begins T = ebeg (T.map er) := by cases T <;> rfl
theorem need_er {s : List Int} {T : List Tok} {R : List K} (h : T.map er = wd s :: R) : need s T = .ok T.tail ∧ T.tail.map er = R := by
  have hw : isW s T = true := by rw [isW_er, h]; simp [ew, wd]
  refine ⟨by unfold need; rw [if_pos hw], ?_⟩
  rw [List.map_tail, h]; rfl
theorem name_er {x : List Int} {T : List Tok} {R : List K} (h : T.map er = nmT x :: R) : name T = .ok (x, T.tail) ∧ T.tail.map er = R := by
  cases T with
  | nil => simp at h
  | cons t r =>
    simp only [List.map_cons, List.cons.injEq] at h
    obtain ⟨h1, h2⟩ := h
    simp only [er, nmT, Prod.mk.injEq] at h1
    refine ⟨?_, h2⟩
    simp only [name, List.tail_cons]
    rw [if_pos h1.1, h1.2.1]
/-- What was had is n, places aside, and these are left; or it was too deep. -/
def Good (r : R) (n : Nd) (R' : List K) : Prop := (∃ p, r = .error (3, p)) ∨ ∃ m T', r = .ok (m, T') ∧ same m n = true ∧ T'.map er = R'
theorem good_bnd {r : R} {n n2 : Nd} {K1 K2 : List K} {f : Nd → List Tok → R} (h : Good r n K1) (h2 : ∀ m T', same m n = true → T'.map er = K1 → Good (f m T') n2 K2) : Good (bnd r f) n2 K2 := by
  rcases h with ⟨p, rfl⟩ | ⟨m, T', rfl, h3, h4⟩
  · exact .inl ⟨p, rfl⟩
  · exact h2 m T' h3 h4
theorem good_ok {m n : Nd} {T' : List Tok} {R' : List K} (h1 : same m n = true) (h2 : T'.map er = R') : Good (.ok (m, T')) n R' := .inr ⟨m, T', rfl, h1, h2⟩
theorem good_need {s : List Int} {T : List Tok} {K1 K2 : List K} {f : List Tok → R} {n : Nd} (h : T.map er = wd s :: K1) (h2 : ∀ T', T'.map er = K1 → Good (f T') n K2) : Good (bnd0 (need s T) f) n K2 := by
  obtain ⟨e1, e2⟩ := need_er h
  rw [e1]
  exact h2 _ e2
theorem good_name {x : List Int} {T : List Tok} {K1 K2 : List K} {f : List Int → List Tok → R} {n : Nd} (h : T.map er = nmT x :: K1) (h2 : ∀ T', T'.map er = K1 → Good (f x T') n K2) : Good (bnd (name T) f) n K2 := by
  obtain ⟨e1, e2⟩ := name_er h
  rw [e1]
  exact h2 _ e2
theorem good_t {s : List Int} {T : List Tok} {G H : R} {n : Nd} {R' : List K} (h : ew s (T.map er) = true) (h2 : Good G n R') : Good (if isW s T then G else H) n R' := by
  rw [if_pos (by rw [isW_er]; exact h)]; exact h2
theorem good_f {s : List Int} {T : List Tok} {G H : R} {n : Nd} {R' : List K} (h : ew s (T.map er) = false) (h2 : Good H n R') : Good (if isW s T then G else H) n R' := by
  rw [if_neg (by rw [isW_er, h]; decide)]; exact h2

/-! ### What goes through a level unchanged -/
/-- No sign of an expr's, and no atom. -/
def Ends (K1 : List K) : Prop := ebeg K1 = false ∧ ew [42] K1 = false ∧ ew [43] K1 = false ∧ ew [45] K1 = false ∧ ew [94] K1 = false ∧ ew [58, 58] K1 = false ∧ ew [61] K1 = false ∧ ew [60] K1 = false ∧ ew [58, 61] K1 = false ∧ ew [59] K1 = false
/-- What begins an atom is no word of an app's. -/
def Begs (K1 : List K) : Prop := (∀ o ∈ ones, ew o K1 = false) ∧ ew [108, 105, 110, 107] K1 = false
theorem appS_more {A : List Tok → R} {T : List Tok} (h : Begs (T.map er)) : appS A T = bnd (A T) fun a L1 => appF A L1.length a L1 := by
  unfold appS
  have e : ones.find? (fun o => isW o T) = none := by
    rw [List.find?_eq_none]
    intro o ho
    rw [isW_er, h.1 o ho]; decide
  rw [e]
  simp only
  rw [if_neg (by rw [isW_er, h.2]; decide)]
theorem appF_done {A : List Tok → R} {f : Nat} {a : Nd} {T : List Tok} (h : ebeg (T.map er) = false) : appF A f a T = .ok (a, T) := by
  cases f with
  | zero => rfl
  | succ f => simp only [appF]; rw [if_neg (by rw [begins_er, h]; decide)]
theorem prodF_done {C : List Tok → R} {f : Nat} {a : Nd} {T : List Tok} (h : ew [42] (T.map er) = false) : prodF C f a T = .ok (a, T) := by
  cases f with
  | zero => rfl
  | succ f => simp only [prodF]; rw [if_neg (by rw [isW_er, h]; decide)]
theorem sumF_done {C : List Tok → R} {f : Nat} {a : Nd} {T : List Tok} (h1 : ew [43] (T.map er) = false) (h2 : ew [45] (T.map er) = false) (h3 : ew [94] (T.map er) = false) : sumF C f a T = .ok (a, T) := by
  cases f with
  | zero => rfl
  | succ f => simp only [sumF]; rw [if_neg (by rw [isW_er, h1]; decide), if_neg (by rw [isW_er, h2]; decide), if_neg (by rw [isW_er, h3]; decide)]

theorem app_good {A : List Tok → R} {T : List Tok} {n : Nd} {K1 : List K} (hb : Begs (T.map er)) (hA : Good (A T) n K1) (he : ebeg K1 = false) : Good (appS A T) n K1 := by
  rw [appS_more hb]
  refine good_bnd hA (fun m T' h1 h2 => ?_)
  rw [appF_done (by rw [h2]; exact he)]
  exact good_ok h1 h2
theorem prod_good {C : List Tok → R} {T : List Tok} {n : Nd} {K1 : List K} (hC : Good (C T) n K1) (he : ew [42] K1 = false) : Good (prodS C T) n K1 :=
  good_bnd hC (fun m T' h1 h2 => by rw [prodF_done (by rw [h2]; exact he)]; exact good_ok h1 h2)
theorem sum_good {C : List Tok → R} {T : List Tok} {n : Nd} {K1 : List K} (hC : Good (C T) n K1) (e1 : ew [43] K1 = false) (e2 : ew [45] K1 = false) (e3 : ew [94] K1 = false) : Good (sumS C T) n K1 :=
  good_bnd hC (fun m T' h1 h2 => by rw [sumF_done (by rw [h2]; exact e1) (by rw [h2]; exact e2) (by rw [h2]; exact e3)]; exact good_ok h1 h2)
theorem cons_good {C : List Tok → R} {T : List Tok} {n : Nd} {K1 : List K} (hC : Good (C T) n K1) (he : ew [58, 58] K1 = false) : Good (consS C T) n K1 :=
  good_bnd hC (fun m T' h1 h2 => good_f (by rw [h2]; exact he) (good_ok h1 h2))
theorem cmp_good {C : List Tok → R} {T : List Tok} {n : Nd} {K1 : List K} (hC : Good (C T) n K1) (e1 : ew [61] K1 = false) (e2 : ew [60] K1 = false) : Good (cmpS C T) n K1 :=
  good_bnd hC (fun m T' h1 h2 => good_f (by rw [h2]; exact e1) (good_f (by rw [h2]; exact e2) (good_ok h1 h2)))
theorem set_good {C : List Tok → R} {T : List Tok} {n : Nd} {K1 : List K} (hC : Good (C T) n K1) (he : ew [58, 61] K1 = false) : Good (setS C T) n K1 :=
  good_bnd hC (fun m T' h1 h2 => good_f (by rw [h2]; exact he) (good_ok h1 h2))
/-- An atom behind which an expr ends. -/
theorem mid_good {A : List Tok → R} {T : List Tok} {n : Nd} {K1 : List K} (hb : Begs (T.map er)) (hA : Good (A T) n K1) (he : Ends K1) : Good (mid A T) n K1 := by
  obtain ⟨e0, e1, e2, e3, e4, e5, e6, e7, e8, -⟩ := he
  exact set_good (cmp_good (cons_good (sum_good (prod_good (app_good hb hA e0) e1) e2 e3 e4) e5) e6 e7) e8
end Go.Em7

namespace Go.Em7
open Go.RowKit Go.Em4 Go.Em5 Go.Em6
set_option linter.unusedSimpArgs false

/-- What begins an expression's tokens. -/
def HeadOk (K1 : List K) : Prop := Begs K1 ∧ ew [108, 101, 116] K1 = false ∧ ew [102, 117, 110] K1 = false ∧ ew [105, 102] K1 = false ∧ ew [109, 97, 116, 99, 104] K1 = false ∧ ew [116, 114, 121] K1 = false ∧ ew [41] K1 = false ∧ ebeg K1 = true
theorem head_not4 {k : K} {K1 : List K} (h : k.1 = 1 ∨ k.1 = 2 ∨ k.1 = 3) : HeadOk (k :: K1) := by
  have h4 : ¬ k.1 = 4 := by omega
  have h5 : ¬ k.1 = 5 := by omega
  refine ⟨⟨fun o _ => ?_, ?_⟩, ?_, ?_, ?_, ?_, ?_, ?_, ?_⟩ <;> simp [ew, ebeg, h4, h5]
theorem head_wd {s : List Int} {K1 : List K} (h : s ∈ [[116, 114, 117, 101], [102, 97, 108, 115, 101], [40], [91], [33]]) : HeadOk (wd s :: K1) := by
  simp only [List.mem_cons, List.not_mem_nil, or_false] at h
  rcases h with rfl | rfl | rfl | rfl | rfl <;> (refine ⟨⟨by simp [ew, wd, ones], ?_⟩, ?_, ?_, ?_, ?_, ?_, ?_, ?_⟩ <;> rfl)
theorem tk_head (t : Nd) (R' : List K) : HeadOk (tk t ++ R') := by
  obtain ⟨op, nm, ar, n, p, l⟩ := t
  rw [tk]
  unfold tkB
  by_cases h1 : op = oInt
  · rw [if_pos h1]; exact head_not4 (.inr (.inl rfl))
  rw [if_neg h1]
  by_cases h2 : op = oBool
  · rw [if_pos h2]
    by_cases hn : n = 1
    · rw [if_pos hn]; exact head_wd (by decide)
    · rw [if_neg hn]; exact head_wd (by decide)
  rw [if_neg h2]
  by_cases h3 : op = oUnit
  · rw [if_pos h3]; exact head_wd (by decide)
  rw [if_neg h3]
  by_cases h4 : op = oNil
  · rw [if_pos h4]; exact head_wd (by decide)
  rw [if_neg h4]
  by_cases h5 : op = oStr
  · rw [if_pos h5]; exact head_not4 (.inr (.inr rfl))
  rw [if_neg h5]
  by_cases h6 : op = oVar
  · rw [if_pos h6]; exact head_not4 (.inl rfl)
  rw [if_neg h6]
  by_cases h7 : op = oPair
  · rw [if_pos h7]; exact head_wd (by decide)
  rw [if_neg h7]
  by_cases h8 : op = oGet
  · rw [if_pos h8]; exact head_wd (by decide)
  rw [if_neg h8]
  exact head_wd (by decide)
theorem ends_wd {s : List Int} {K1 : List K} (h : s ∈ [[41], [44], [116, 104, 101, 110], [101, 108, 115, 101], [119, 105, 116, 104], [105, 110], [124]]) : Ends (wd s :: K1) := by
  simp only [List.mem_cons, List.not_mem_nil, or_false] at h
  rcases h with rfl | rfl | rfl | rfl | rfl | rfl | rfl <;> (refine ⟨?_, ?_, ?_, ?_, ?_, ?_, ?_, ?_, ?_, ?_⟩ <;> rfl)
theorem ends_end (K1 : List K) : Ends ((5, [], 0) :: K1) := ⟨rfl, rfl, rfl, rfl, rfl, rfl, rfl, rfl, rfl, rfl⟩
theorem same_nd {op a b : List Int} {c q p : Int} {l' l : List Nd} (h : sames l' l = true) : same (.mk op a b c q l') (.mk op a b c p l) = true := by simp [same, h]
theorem sames1 {a b : Nd} (h : same a b = true) : sames [a] [b] = true := by simp [sames, h]
theorem sames2 {a b c d : Nd} (h : same a b = true) (h2 : same c d = true) : sames [a, c] [b, d] = true := by simp [sames, h, h2]
theorem sames3 {a b c d e f : Nd} (h : same a b = true) (h2 : same c d = true) (h3 : same e f = true) : sames [a, c, e] [b, d, f] = true := by simp [sames, h, h2, h3]

/-- What is said of each level. -/
def Says (t : Nd) : Prop := ∀ f, (∀ T R', T.map er = tk t ++ R' → Good ((lev f).2 T) t R') ∧ (∀ T R', Ends R' → T.map er = tk t ++ R' → Good ((lev f).1 T) t R')
theorem says_atom {t : Nd} (h : Says t) (f : Nat) {T : List Tok} {R' : List K} (e : T.map er = tk t ++ R') : Good ((lev f).2 T) t R' := (h f).1 T R' e
theorem says_expr {t : Nd} (h : Says t) (f : Nat) {T : List Tok} {R' : List K} (he : Ends R') (e : T.map er = tk t ++ R') : Good ((lev f).1 T) t R' := (h f).2 T R' he e
/-- From atoms to exprs. -/
theorem expr_of_atom {t : Nd} (f : Nat) (hA : ∀ T R', T.map er = tk t ++ R' → Good ((lev (f + 1)).2 T) t R') (T : List Tok) (R' : List K) (he : Ends R') (e : T.map er = tk t ++ R') : Good ((lev (f + 1)).1 T) t R' := by
  obtain ⟨hb, h1, h2, h3, h4, h5, -, -⟩ := tk_head t R'
  rw [← e] at hb h1 h2 h3 h4 h5
  show Good (exprS (mid (lev (f + 1)).2) (lev f).1 T) t R'
  unfold exprS
  refine good_f h1 (good_f h2 (good_f h3 (good_f h4 (good_f h5 (good_bnd (mid_good hb (hA T R' e) he) (fun m T' g1 g2 => ?_))))))
  exact good_f (by rw [g2]; exact he.2.2.2.2.2.2.2.2.2) (good_ok g1 g2)
end Go.Em7

namespace Go.Em7
open Go.RowKit Go.Em4 Go.Em5 Go.Em6
set_option linter.unusedSimpArgs false

theorem ends_rp (R' : List K) : Ends (wd [41] :: R') := ends_wd (by decide)
/-- An atom at its own level, with what stands behind it told by 'Ends' but for the sign at hand. -/
theorem consF_good {C : List Tok → R} {f : Nat} {T : List Tok} {n : Nd} {K1 : List K} (hf : 0 < f) (hC : Good (C T) n K1) (he : ew [58, 58] K1 = false) : Good (consF C f T) n K1 := by
  obtain ⟨g, rfl⟩ : ∃ g, f = g + 1 := ⟨f - 1, by omega⟩
  exact good_bnd hC (fun m T' h1 h2 => good_f (by rw [h2]; exact he) (good_ok h1 h2))
theorem len_pos {T : List Tok} {k : K} {K1 : List K} (h : T.map er = k :: K1) : ∃ g, T.length = g + 1 := by
  cases T with
  | nil => simp at h
  | cons t r => exact ⟨r.length, rfl⟩
theorem tail_er {T : List Tok} {k : K} {K1 : List K} (h : T.map er = k :: K1) : T.tail.map er = K1 := by rw [List.map_tail, h]; rfl

section
variable {A : List Tok → R} {x y t : Nd} {R' : List K}
/-- Two atoms and a sign between: the levels. -/
theorem mul_good {T : List Tok} {op nm ar : List Int} {n p : Int} (hx : ∀ T R', T.map er = tk x ++ R' → Good (A T) x R') (hy : ∀ T R', T.map er = tk y ++ R' → Good (A T) y R')
    (hs : ∀ q m m2, same m x = true → same m2 y = true → same (nd [109, 117, 108] q [m, m2]) (.mk op nm ar n p [x, y]) = true) (e : T.map er = tk x ++ wd [42] :: (tk y ++ wd [41] :: R')) : Good (prodS (appS A) T) (.mk op nm ar n p [x, y]) (wd [41] :: R') := by
  refine good_bnd (app_good (by rw [e]; exact (tk_head x _).1) (hx T _ e) rfl) (fun m T' g1 g2 => ?_)
  obtain ⟨g, hg⟩ := len_pos g2
  rw [hg]
  refine good_t (by rw [g2]; rfl) (good_bnd (app_good (by rw [tail_er g2]; exact (tk_head y _).1) (hy _ _ (tail_er g2)) rfl) (fun m2 T2 g3 g4 => ?_))
  rw [prodF_done (by rw [g4]; rfl)]
  exact good_ok (hs _ _ _ g1 g3) g4
theorem sum3_good {T : List Tok} {op nm ar : List Int} {n p : Int} {s o : List Int} (hso : (s, o) ∈ [([43], [97, 100, 100]), ([45], [115, 117, 98]), ([94], [99, 97, 116])]) (hx : ∀ T R', T.map er = tk x ++ R' → Good (A T) x R') (hy : ∀ T R', T.map er = tk y ++ R' → Good (A T) y R')
    (hs : ∀ q m m2, same m x = true → same m2 y = true → same (nd o q [m, m2]) (.mk op nm ar n p [x, y]) = true) (e : T.map er = tk x ++ wd s :: (tk y ++ wd [41] :: R')) : Good (sumS (prodS (appS A)) T) (.mk op nm ar n p [x, y]) (wd [41] :: R') := by
  have hst : ebeg (wd s :: (tk y ++ wd [41] :: R')) = false ∧ ew [42] (wd s :: (tk y ++ wd [41] :: R')) = false := by
    simp only [List.mem_cons, Prod.mk.injEq, List.not_mem_nil, or_false] at hso
    rcases hso with ⟨rfl, -⟩ | ⟨rfl, -⟩ | ⟨rfl, -⟩ <;> exact ⟨rfl, rfl⟩
  refine good_bnd (prod_good (app_good (by rw [e]; exact (tk_head x _).1) (hx T _ e) hst.1) hst.2) (fun m T' g1 g2 => ?_)
  obtain ⟨g, hg⟩ := len_pos g2
  rw [hg]
  have hy2 : Good (prodS (appS A) T'.tail) y (wd [41] :: R') := prod_good (app_good (by rw [tail_er g2]; exact (tk_head y _).1) (hy _ _ (tail_er g2)) rfl) rfl
  simp only [List.mem_cons, Prod.mk.injEq, List.not_mem_nil, or_false] at hso
  rcases hso with ⟨rfl, rfl⟩ | ⟨rfl, rfl⟩ | ⟨rfl, rfl⟩
  · refine good_t (by rw [g2]; rfl) (good_bnd hy2 (fun m2 T2 g3 g4 => ?_))
    rw [sumF_done (by rw [g4]; rfl) (by rw [g4]; rfl) (by rw [g4]; rfl)]
    exact good_ok (hs _ _ _ g1 g3) g4
  · refine good_f (by rw [g2]; rfl) (good_t (by rw [g2]; rfl) (good_bnd hy2 (fun m2 T2 g3 g4 => ?_)))
    rw [sumF_done (by rw [g4]; rfl) (by rw [g4]; rfl) (by rw [g4]; rfl)]
    exact good_ok (hs _ _ _ g1 g3) g4
  · refine good_f (by rw [g2]; rfl) (good_f (by rw [g2]; rfl) (good_t (by rw [g2]; rfl) (good_bnd hy2 (fun m2 T2 g3 g4 => ?_))))
    rw [sumF_done (by rw [g4]; rfl) (by rw [g4]; rfl) (by rw [g4]; rfl)]
    exact good_ok (hs _ _ _ g1 g3) g4
theorem app2_good {T : List Tok} {op nm ar : List Int} {n p : Int} (hx : ∀ T R', T.map er = tk x ++ R' → Good (A T) x R') (hy : ∀ T R', T.map er = tk y ++ R' → Good (A T) y R')
    (hs : ∀ q m m2, same m x = true → same m2 y = true → same (nd [97, 112, 112] q [m, m2]) (.mk op nm ar n p [x, y]) = true) (e : T.map er = tk x ++ (tk y ++ wd [41] :: R')) : Good (appS A T) (.mk op nm ar n p [x, y]) (wd [41] :: R') := by
  rw [appS_more (by rw [e]; exact (tk_head x _).1)]
  refine good_bnd (hx T _ e) (fun m T' g1 g2 => ?_)
  have hb : begins T' = true := by rw [begins_er, g2]; exact (tk_head y _).2.2.2.2.2.2.2
  cases T' with
  | nil => simp [begins] at hb
  | cons t' r' =>
    show Good (appF A (r'.length + 1) m (t' :: r')) _ _
    simp only [appF]
    rw [if_pos hb]
    refine good_bnd (hy _ _ g2) (fun m2 T2 g3 g4 => ?_)
    rw [appF_done (by rw [g4]; rfl)]
    exact good_ok (hs _ _ _ g1 g3) g4
end

/-- The levels below a sign's own, of an atom with that sign or ')' behind. -/
theorem low_sum {A : List Tok → R} {T : List Tok} {n : Nd} {K1 : List K} (hb : Begs (T.map er)) (hA : Good (A T) n K1) (e0 : ebeg K1 = false) (e1 : ew [42] K1 = false) (e2 : ew [43] K1 = false) (e3 : ew [45] K1 = false) (e4 : ew [94] K1 = false) : Good (sumS (prodS (appS A)) T) n K1 := sum_good (prod_good (app_good hb hA e0) e1) e2 e3 e4
end Go.Em7

namespace Go.Em7
open Go.RowKit Go.Em4 Go.Em5 Go.Em6
set_option linter.unusedSimpArgs false

theorem sign_plain {op nm ar : List Int} {n p : Int} {l : List Nd} (hs : signOf op ≠ []) (he : each (.mk op nm ar n p l) = true) : nm = [] ∧ ar = [] ∧ n = 0 := by
  obtain ⟨-, hA, hB, hN⟩ := each_parts he
  have hm := sign_mem hs
  simp only [signL, List.mem_cons, Prod.mk.injEq, List.not_mem_nil, or_false] at hm
  have key : nameA op nm = decide (nm = []) ∧ nameB op ar = decide (ar = []) ∧ numOk op n = decide (n = 0) := by
    rcases hm with ⟨rfl, -⟩ | ⟨rfl, -⟩ | ⟨rfl, -⟩ | ⟨rfl, -⟩ | ⟨rfl, -⟩ | ⟨rfl, -⟩ | ⟨rfl, -⟩ | ⟨rfl, -⟩ | ⟨rfl, -⟩ | ⟨rfl, -⟩ <;> exact ⟨rfl, rfl, rfl⟩
  rw [key.1] at hA
  rw [key.2.1] at hB
  rw [key.2.2] at hN
  exact ⟨of_decide_eq_true hA, of_decide_eq_true hB, of_decide_eq_true hN⟩
/-- An atom in an expr, with anything behind that is no sign ahead of ';'. -/
theorem mid_good9 {A : List Tok → R} {T : List Tok} {n : Nd} {K1 : List K} (hb : Begs (T.map er)) (hA : Good (A T) n K1) (e0 : ebeg K1 = false) (e1 : ew [42] K1 = false) (e2 : ew [43] K1 = false) (e3 : ew [45] K1 = false) (e4 : ew [94] K1 = false) (e5 : ew [58, 58] K1 = false) (e6 : ew [61] K1 = false) (e7 : ew [60] K1 = false) (e8 : ew [58, 61] K1 = false) : Good (mid A T) n K1 :=
  set_good (cmp_good (cons_good (sum_good (prod_good (app_good hb hA e0) e1) e2 e3 e4) e5) e6 e7) e8
/-- Two kids and their sign, but for ';'. -/
theorem midsign_good {A : List Tok → R} {x y : Nd} {op : List Int} {p : Int} {T : List Tok} {R' : List K} (hs : signOf op ≠ []) (hseq : op ≠ oSeq) (hx : ∀ T R', T.map er = tk x ++ R' → Good (A T) x R') (hy : ∀ T R', T.map er = tk y ++ R' → Good (A T) y R')
    (e : T.map er = tk x ++ signT op ++ tk y ++ wd [41] :: R') : Good (mid A T) (.mk op [] [] 0 p [x, y]) (wd [41] :: R') := by
  have sm : ∀ (q : Nat) m m2, same m x = true → same m2 y = true → same (nd op q [m, m2]) (.mk op [] [] 0 p [x, y]) = true := fun q m m2 h1 h2 => same_nd (sames2 h1 h2)
  have hm := sign_mem hs
  simp only [signL, List.mem_cons, Prod.mk.injEq, List.not_mem_nil, or_false] at hm
  unfold mid
  rcases hm with ⟨h1, -⟩ | ⟨h1, -⟩ | ⟨h1, -⟩ | ⟨h1, -⟩ | ⟨h1, -⟩ | ⟨h1, -⟩ | ⟨h1, -⟩ | ⟨h1, -⟩ | ⟨h1, -⟩ | ⟨h1, -⟩
  · exact absurd h1 hseq
  · subst h1
    have e : T.map er = tk x ++ wd [58, 61] :: (tk y ++ wd [41] :: R') := by rw [e, show signT oSet = [wd [58, 61]] by decide]; simp
    refine good_bnd (cmp_good (cons_good (low_sum (by rw [e]; exact (tk_head x _).1) (hx T _ e) rfl rfl rfl rfl rfl) rfl) rfl rfl) (fun m T' g1 g2 => ?_)
    refine good_t (by rw [g2]; rfl) (good_bnd (cmp_good (cons_good (low_sum (by rw [tail_er g2]; exact (tk_head y _).1) (hy _ _ (tail_er g2)) rfl rfl rfl rfl rfl) rfl) rfl rfl) (fun m2 T2 g3 g4 => good_ok (sm _ _ _ g1 g3) g4))
  · subst h1
    have e : T.map er = tk x ++ wd [61] :: (tk y ++ wd [41] :: R') := by rw [e, show signT oEq = [wd [61]] by decide]; simp
    refine set_good ?_ rfl
    refine good_bnd (cons_good (low_sum (by rw [e]; exact (tk_head x _).1) (hx T _ e) rfl rfl rfl rfl rfl) rfl) (fun m T' g1 g2 => ?_)
    refine good_t (by rw [g2]; rfl) (good_bnd (cons_good (low_sum (by rw [tail_er g2]; exact (tk_head y _).1) (hy _ _ (tail_er g2)) rfl rfl rfl rfl rfl) rfl) (fun m2 T2 g3 g4 => good_ok (sm _ _ _ g1 g3) g4))
  · subst h1
    have e : T.map er = tk x ++ wd [60] :: (tk y ++ wd [41] :: R') := by rw [e, show signT oLess = [wd [60]] by decide]; simp
    refine set_good ?_ rfl
    refine good_bnd (cons_good (low_sum (by rw [e]; exact (tk_head x _).1) (hx T _ e) rfl rfl rfl rfl rfl) rfl) (fun m T' g1 g2 => ?_)
    refine good_f (by rw [g2]; rfl) (good_t (by rw [g2]; rfl) (good_bnd (cons_good (low_sum (by rw [tail_er g2]; exact (tk_head y _).1) (hy _ _ (tail_er g2)) rfl rfl rfl rfl rfl) rfl) (fun m2 T2 g3 g4 => good_ok (sm _ _ _ g1 g3) g4)))
  · subst h1
    have e : T.map er = tk x ++ wd [58, 58] :: (tk y ++ wd [41] :: R') := by rw [e, show signT oCons = [wd [58, 58]] by decide]; simp
    refine set_good (cmp_good ?_ rfl rfl) rfl
    have hTl : 0 < T.length := by
      have h := congrArg List.length e
      simp at h
      omega
    show Good (consF _ (T.length + 1) T) _ _
    refine good_bnd (low_sum (by rw [e]; exact (tk_head x _).1) (hx T _ e) rfl rfl rfl rfl rfl) (fun m T' g1 g2 => ?_)
    refine good_t (by rw [g2]; rfl) (good_bnd (consF_good hTl (low_sum (by rw [tail_er g2]; exact (tk_head y _).1) (hy _ _ (tail_er g2)) rfl rfl rfl rfl rfl) rfl) (fun m2 T2 g3 g4 => good_ok (sm _ _ _ g1 g3) g4))
  · subst h1
    have e : T.map er = tk x ++ wd [43] :: (tk y ++ wd [41] :: R') := by rw [e, show signT oAdd = [wd [43]] by decide]; simp
    exact set_good (cmp_good (cons_good (sum3_good (s := [43]) (o := [97, 100, 100]) (by decide) hx hy sm e) rfl) rfl rfl) rfl
  · subst h1
    have e : T.map er = tk x ++ wd [45] :: (tk y ++ wd [41] :: R') := by rw [e, show signT oSub = [wd [45]] by decide]; simp
    exact set_good (cmp_good (cons_good (sum3_good (s := [45]) (o := [115, 117, 98]) (by decide) hx hy sm e) rfl) rfl rfl) rfl
  · subst h1
    have e : T.map er = tk x ++ wd [94] :: (tk y ++ wd [41] :: R') := by rw [e, show signT oCat = [wd [94]] by decide]; simp
    exact set_good (cmp_good (cons_good (sum3_good (s := [94]) (o := [99, 97, 116]) (by decide) hx hy sm e) rfl) rfl rfl) rfl
  · subst h1
    have e : T.map er = tk x ++ wd [42] :: (tk y ++ wd [41] :: R') := by rw [e, show signT oMul = [wd [42]] by decide]; simp
    exact set_good (cmp_good (cons_good (sum_good (mul_good hx hy sm e) rfl rfl rfl) rfl) rfl rfl) rfl
  · subst h1
    have e : T.map er = tk x ++ (tk y ++ wd [41] :: R') := by rw [e, show signT oApp = [] by decide]; simp
    exact set_good (cmp_good (cons_good (sum_good (prod_good (app2_good hx hy sm e) rfl) rfl rfl rfl) rfl) rfl rfl) rfl
/-- Two kids and their sign, at each level. -/
theorem sign_good {x y : Nd} {op : List Int} {p : Int} (hs : signOf op ≠ []) (hx : Says x) (hy : Says y) : ∀ (f : Nat) (T : List Tok) (R' : List K), T.map er = tk x ++ signT op ++ tk y ++ wd [41] :: R' → Good ((lev f).1 T) (.mk op [] [] 0 p [x, y]) (wd [41] :: R')
  | 0, T, R', _ => .inl ⟨_, rfl⟩
  | f + 1, T, R', e => by
    obtain ⟨hb, h1, h2, h3, h4, h5, -, -⟩ := tk_head x (signT op ++ tk y ++ wd [41] :: R')
    have e0 : T.map er = tk x ++ (signT op ++ tk y ++ wd [41] :: R') := by rw [e]; simp
    rw [← e0] at hb h1 h2 h3 h4 h5
    show Good (exprS (mid (lev (f + 1)).2) (lev f).1 T) _ _
    unfold exprS
    refine good_f h1 (good_f h2 (good_f h3 (good_f h4 (good_f h5 ?_))))
    by_cases hseq : op = oSeq
    · subst hseq
      have e : T.map er = tk x ++ wd [59] :: (tk y ++ wd [41] :: R') := by rw [e, show signT oSeq = [wd [59]] by decide]; simp
      refine good_bnd (mid_good9 hb (says_atom hx (f + 1) e) rfl rfl rfl rfl rfl rfl rfl rfl rfl) (fun m T' g1 g2 => ?_)
      refine good_t (by rw [g2]; rfl) (good_bnd (says_expr hy f (ends_rp _) (tail_er g2)) (fun m2 T2 g3 g4 => good_ok (same_nd (sames2 g1 g3)) g4))
    · refine good_bnd (midsign_good (p := p) hs hseq (fun T R' e => says_atom hx (f + 1) e) (fun T R' e => says_atom hy (f + 1) e) e) (fun m T' g1 g2 => ?_)
      exact good_f (by rw [g2]; rfl) (good_ok g1 g2)
end Go.Em7

namespace Go.Em7
open Go.RowKit Go.Em4 Go.Em5 Go.Em6
set_option linter.unusedSimpArgs false

def restOps : List (List Int) := [oRaise, oFst, oSnd, oRef, oCell, oTag, oLinks, oSize, oPrint, oLink]
theorem rest_ops {op : List Int} {k : Nat} (hk : kidsN op = k) (hx : op ∉ [oInt, oBool, oUnit, oNil, oStr, oVar, oPair, oGet]) (hs : ¬ signOf op ≠ []) (hy : op ∉ [oFun, oLet, oRec, oIf, oMatch, oTry]) : op ∈ restOps := by
  have hall : op ∈ ops0 ++ ops1 ++ ops2 ++ ops3 := by
    have h0 : 0 ≤ kidsN op := by omega
    unfold kidsN at h0
    by_cases c0 : op ∈ ops0
    · simp [c0]
    · by_cases c1 : op ∈ ops1
      · simp [c1]
      · by_cases c2 : op ∈ ops2
        · simp [c2]
        · by_cases c3 : op ∈ ops3
          · simp [c3]
          · simp [c0, c1, c2, c3] at h0
  have key : ∀ o ∈ ops0 ++ ops1 ++ ops2 ++ ops3, o ∈ restOps ∨ o ∈ [oInt, oBool, oUnit, oNil, oStr, oVar, oPair, oGet] ∨ signOf o ≠ [] ∨ o ∈ [oFun, oLet, oRec, oIf, oMatch, oTry] := by decide
  rcases key op hall with h | h | h | h
  · exact h
  · exact absurd h hx
  · exact absurd h hs
  · exact absurd h hy
theorem one_good {A : List Tok → R} {op : List Int} {x : Nd} {p : Int} {T : List Tok} {R' : List K} (ho : op ∈ ones) (hx : ∀ T R', T.map er = tk x ++ R' → Good (A T) x R') (e : T.map er = wd op :: (tk x ++ wd [41] :: R')) : Good (appS A T) (.mk op [] [] 0 p [x]) (wd [41] :: R') := by
  have hf : ones.find? (fun o => isW o T) = some op := by
    have e1 : (fun o => isW o T) = (fun o => decide (op = o)) := by funext o; rw [isW_er, e, Bool.eq_iff_iff]; simp [ew, wd]; exact ⟨of_decide_eq_true, decide_eq_true⟩
    rw [e1]
    have key : ∀ op ∈ ones, ones.find? (fun o => decide (op = o)) = some op := by decide
    exact key op ho
  unfold appS
  rw [hf]
  exact good_bnd (hx _ _ (tail_er e)) (fun m T' g1 g2 => good_ok (same_nd (sames1 g1)) g2)
theorem link_good {A : List Tok → R} {x y : Nd} {p : Int} {T : List Tok} {R' : List K} (hx : ∀ T R', T.map er = tk x ++ R' → Good (A T) x R') (hy : ∀ T R', T.map er = tk y ++ R' → Good (A T) y R') (e : T.map er = wd oLink :: (tk x ++ (tk y ++ wd [41] :: R'))) : Good (appS A T) (.mk oLink [] [] 0 p [x, y]) (wd [41] :: R') := by
  have hf : ones.find? (fun o => isW o T) = none := by
    have e1 : (fun o => isW o T) = (fun o => decide (oLink = o)) := by funext o; rw [isW_er, e, Bool.eq_iff_iff]; simp [ew, wd]; exact ⟨of_decide_eq_true, decide_eq_true⟩
    rw [e1]
    decide
  unfold appS
  rw [hf]
  simp only
  refine good_t (by rw [e]; rfl) (good_bnd (hx _ _ (tail_er e)) (fun m T' g1 g2 => good_bnd (hy _ _ g2) (fun m2 T2 g3 g4 => good_ok (same_nd (sames2 g1 g3)) g4)))
theorem rest_plain {op nm ar : List Int} {n p : Int} {l : List Nd} (ho : op ∈ restOps) (he : each (.mk op nm ar n p l) = true) : nm = [] ∧ ar = [] ∧ n = 0 := by
  obtain ⟨-, hA, hB, hN⟩ := each_parts he
  simp only [restOps, List.mem_cons, List.not_mem_nil, or_false] at ho
  have key : nameA op nm = decide (nm = []) ∧ nameB op ar = decide (ar = []) ∧ numOk op n = decide (n = 0) := by
    rcases ho with rfl | rfl | rfl | rfl | rfl | rfl | rfl | rfl | rfl | rfl <;> exact ⟨rfl, rfl, rfl⟩
  rw [key.1] at hA
  rw [key.2.1] at hB
  rw [key.2.2] at hN
  exact ⟨of_decide_eq_true hA, of_decide_eq_true hB, of_decide_eq_true hN⟩
theorem pass_good {A : List Tok → R} {E : List Tok → R} {T : List Tok} {n : Nd} {R' : List K} (h1 : ew [108, 101, 116] (T.map er) = false) (h2 : ew [102, 117, 110] (T.map er) = false) (h3 : ew [105, 102] (T.map er) = false) (h4 : ew [109, 97, 116, 99, 104] (T.map er) = false) (h5 : ew [116, 114, 121] (T.map er) = false) (h : Good (appS A T) n (wd [41] :: R')) : Good (exprS (mid A) E T) n (wd [41] :: R') := by
  unfold exprS
  refine good_f h1 (good_f h2 (good_f h3 (good_f h4 (good_f h5 (good_bnd (n := n) (K1 := wd [41] :: R') ?_ (fun m T' g1 g2 => good_f (by rw [g2]; rfl) (good_ok g1 g2)))))))
  exact set_good (cmp_good (cons_good (sum_good (prod_good h rfl) rfl rfl rfl) rfl) rfl rfl) rfl
theorem inner_good {op nm ar : List Int} {n p : Int} {l : List Nd} (he : each (.mk op nm ar n p l) = true) (ih : ∀ t ∈ l, Says t) (hx : op ∉ [oInt, oBool, oUnit, oNil, oStr, oVar, oPair, oGet]) :
    ∀ (f : Nat) (T : List Tok) (R' : List K), T.map er = innerT op nm ar (tks l) ++ wd [41] :: R' → Good ((lev f).1 T) (.mk op nm ar n p l) (wd [41] :: R')
  | 0, T, R', _ => .inl ⟨_, rfl⟩
  | f + 1, T, R', e => by
    obtain ⟨hk, hA, hB, hN⟩ := each_parts he
    unfold innerT at e
    by_cases hs : signOf op ≠ []
    · rw [if_pos hs] at e
      obtain ⟨x, y, rfl⟩ := len_two (l := l) (by have := sign_two hs; omega)
      rw [tks_get [x, y] 0 x rfl, tks_get [x, y] 1 y rfl] at e
      obtain ⟨rfl, rfl, rfl⟩ := sign_plain hs he
      exact sign_good hs (ih x (by simp)) (ih y (by simp)) (f + 1) T R' e
    rw [if_neg hs] at e
    show Good (exprS (mid (lev (f + 1)).2) (lev f).1 T) _ _
    by_cases h1 : op = oFun
    · rw [if_pos h1] at e
      subst h1
      obtain rfl : ar = [] := of_decide_eq_true hB
      obtain rfl : n = 0 := of_decide_eq_true hN
      obtain ⟨x, rfl⟩ := len_one (l := l) (by have e : kidsN oFun = 1 := (by decide); omega)
      rw [tks_get [x] 0 x rfl] at e
      have e : T.map er = wd [102, 117, 110] :: nmT nm :: wd [45, 62] :: (tk x ++ wd [41] :: R') := by rw [e]; simp
      unfold exprS
      refine good_f (by rw [e]; rfl) (good_t (by rw [e]; rfl) (good_name (tail_er e) (fun T1 a1 => good_need a1 (fun T2 a2 => good_bnd (says_expr (ih x (by simp)) f (ends_rp _) a2) (fun m T3 g1 g2 => good_ok (same_nd (sames1 g1)) g2)))))
    rw [if_neg h1] at e
    by_cases h2 : op = oLet
    · rw [if_pos h2] at e
      subst h2
      obtain rfl : ar = [] := of_decide_eq_true hB
      obtain rfl : n = 0 := of_decide_eq_true hN
      obtain ⟨x, y, rfl⟩ := len_two (l := l) (by have e : kidsN oLet = 2 := (by decide); omega)
      rw [tks_get [x, y] 0 x rfl, tks_get [x, y] 1 y rfl] at e
      have e : T.map er = wd [108, 101, 116] :: nmT nm :: wd [61] :: (tk x ++ wd [105, 110] :: (tk y ++ wd [41] :: R')) := by rw [e]; simp
      unfold exprS
      refine good_t (by rw [e]; rfl) ?_
      unfold letS
      refine good_f (by rw [tail_er e]; rfl) (good_name (tail_er e) (fun T1 a1 => ?_))
      unfold letT
      exact good_need a1 (fun T2 a2 => good_bnd (says_expr (ih x (by simp)) f (ends_wd (by decide)) a2) (fun m T3 g1 g2 => good_need g2 (fun T4 a4 => good_bnd (says_expr (ih y (by simp)) f (ends_rp _) a4) (fun m2 T5 g3 g4 => good_ok (same_nd (sames2 g1 g3)) g4))))
    rw [if_neg h2] at e
    by_cases h3 : op = oRec
    · rw [if_pos h3] at e
      subst h3
      obtain rfl : n = 0 := of_decide_eq_true hN
      obtain ⟨x, y, rfl⟩ := len_two (l := l) (by have e : kidsN oRec = 2 := (by decide); omega)
      rw [tks_get [x, y] 0 x rfl, tks_get [x, y] 1 y rfl] at e
      have e : T.map er = wd [108, 101, 116] :: wd [114, 101, 99] :: nmT nm :: nmT ar :: wd [61] :: (tk x ++ wd [105, 110] :: (tk y ++ wd [41] :: R')) := by rw [e]; simp
      unfold exprS
      refine good_t (by rw [e]; rfl) ?_
      unfold letS
      refine good_t (by rw [tail_er e]; rfl) (good_name (tail_er (tail_er e)) (fun T1 a1 => good_name a1 (fun T1b a1b => ?_)))
      unfold letT
      exact good_need a1b (fun T2 a2 => good_bnd (says_expr (ih x (by simp)) f (ends_wd (by decide)) a2) (fun m T3 g1 g2 => good_need g2 (fun T4 a4 => good_bnd (says_expr (ih y (by simp)) f (ends_rp _) a4) (fun m2 T5 g3 g4 => good_ok (same_nd (sames2 g1 g3)) g4))))
    rw [if_neg h3] at e
    by_cases h4 : op = oIf
    · rw [if_pos h4] at e
      subst h4
      obtain rfl : nm = [] := of_decide_eq_true hA
      obtain rfl : ar = [] := of_decide_eq_true hB
      obtain rfl : n = 0 := of_decide_eq_true hN
      obtain ⟨x, y, z, rfl⟩ := len_three (l := l) (by have e : kidsN oIf = 3 := (by decide); omega)
      rw [tks_get [x, y, z] 0 x rfl, tks_get [x, y, z] 1 y rfl, tks_get [x, y, z] 2 z rfl] at e
      have e : T.map er = wd [105, 102] :: (tk x ++ wd [116, 104, 101, 110] :: (tk y ++ wd [101, 108, 115, 101] :: (tk z ++ wd [41] :: R'))) := by rw [e]; simp
      unfold exprS
      refine good_f (by rw [e]; rfl) (good_f (by rw [e]; rfl) (good_t (by rw [e]; rfl) ?_))
      exact good_bnd (says_expr (ih x (by simp)) f (ends_wd (by decide)) (tail_er e)) (fun m T1 g1 g2 => good_need g2 (fun T2 a2 => good_bnd (says_expr (ih y (by simp)) f (ends_wd (by decide)) a2) (fun m2 T3 g3 g4 => good_need g4 (fun T4 a4 => good_bnd (says_expr (ih z (by simp)) f (ends_rp _) a4) (fun m3 T5 g5 g6 => good_ok (same_nd (sames3 g1 g3 g5)) g6)))))
    rw [if_neg h4] at e
    by_cases h5 : op = oMatch
    · rw [if_pos h5] at e
      subst h5
      obtain rfl : n = 0 := of_decide_eq_true hN
      obtain ⟨x, y, z, rfl⟩ := len_three (l := l) (by have e : kidsN oMatch = 3 := (by decide); omega)
      rw [tks_get [x, y, z] 0 x rfl, tks_get [x, y, z] 1 y rfl, tks_get [x, y, z] 2 z rfl] at e
      have e : T.map er = wd [109, 97, 116, 99, 104] :: (tk x ++ wd [119, 105, 116, 104] :: wd [91] :: wd [93] :: wd [45, 62] :: (tk y ++ wd [124] :: nmT nm :: wd [58, 58] :: nmT ar :: wd [45, 62] :: (tk z ++ wd [41] :: R'))) := by rw [e]; simp
      unfold exprS
      refine good_f (by rw [e]; rfl) (good_f (by rw [e]; rfl) (good_f (by rw [e]; rfl) (good_t (by rw [e]; rfl) ?_)))
      unfold matchS
      exact good_bnd (says_expr (ih x (by simp)) f (ends_wd (by decide)) (tail_er e)) (fun m T1 g1 g2 => good_need g2 (fun T2 a2 => good_need a2 (fun T3 a3 => good_need a3 (fun T4 a4 => good_need a4 (fun T5 a5 => good_bnd (says_expr (ih y (by simp)) f (ends_wd (by decide)) a5) (fun m2 T6 g3 g4 => good_need g4 (fun T7 a7 => good_name a7 (fun T8 a8 => good_need a8 (fun T9 a9 => good_name a9 (fun T10 a10 => good_need a10 (fun T11 a11 => good_bnd (says_expr (ih z (by simp)) f (ends_rp _) a11) (fun m3 T12 g5 g6 => good_ok (same_nd (sames3 g1 g3 g5)) g6))))))))))))
    rw [if_neg h5] at e
    by_cases h6 : op = oTry
    · rw [if_pos h6] at e
      subst h6
      obtain rfl : ar = [] := of_decide_eq_true hB
      obtain rfl : n = 0 := of_decide_eq_true hN
      obtain ⟨x, y, rfl⟩ := len_two (l := l) (by have e : kidsN oTry = 2 := (by decide); omega)
      rw [tks_get [x, y] 0 x rfl, tks_get [x, y] 1 y rfl] at e
      have e : T.map er = wd [116, 114, 121] :: (tk x ++ wd [119, 105, 116, 104] :: nmT nm :: wd [45, 62] :: (tk y ++ wd [41] :: R')) := by rw [e]; simp
      unfold exprS
      refine good_f (by rw [e]; rfl) (good_f (by rw [e]; rfl) (good_f (by rw [e]; rfl) (good_f (by rw [e]; rfl) (good_t (by rw [e]; rfl) ?_))))
      exact good_bnd (says_expr (ih x (by simp)) f (ends_wd (by decide)) (tail_er e)) (fun m T1 g1 g2 => good_need g2 (fun T2 a2 => good_name a2 (fun T3 a3 => good_need a3 (fun T4 a4 => good_bnd (says_expr (ih y (by simp)) f (ends_rp _) a4) (fun m2 T5 g3 g4 => good_ok (same_nd (sames2 g1 g3)) g4)))))
    rw [if_neg h6] at e
    have hrest : op ∈ restOps := rest_ops hk hx hs (by simp [h1, h2, h3, h4, h5, h6])
    obtain ⟨rfl, rfl, rfl⟩ := rest_plain hrest he
    by_cases hl : op = oLink
    · subst hl
      obtain ⟨x, y, rfl⟩ := len_two (l := l) (by have e : kidsN oLink = 2 := (by decide); omega)
      have e : T.map er = wd oLink :: (tk x ++ (tk y ++ wd [41] :: R')) := by rw [e]; simp [tks]
      exact pass_good (by rw [e]; rfl) (by rw [e]; rfl) (by rw [e]; rfl) (by rw [e]; rfl) (by rw [e]; rfl) (link_good (fun T R' e => says_atom (ih x (by simp)) (f + 1) e) (fun T R' e => says_atom (ih y (by simp)) (f + 1) e) e)
    · have hone : op ∈ ones ∧ kidsN op = 1 := by
        have key : ∀ o ∈ restOps, o = oLink ∨ (o ∈ ones ∧ kidsN o = 1) := by decide
        rcases key op hrest with h | h
        · exact absurd h hl
        · exact h
      have hws : ∀ o ∈ ones, ∀ K1 : List K, ew [108, 101, 116] (wd o :: K1) = false ∧ ew [102, 117, 110] (wd o :: K1) = false ∧ ew [105, 102] (wd o :: K1) = false ∧ ew [109, 97, 116, 99, 104] (wd o :: K1) = false ∧ ew [116, 114, 121] (wd o :: K1) = false := by
        intro o ho K1
        have key : ∀ o ∈ ones, o ≠ [108, 101, 116] ∧ o ≠ [102, 117, 110] ∧ o ≠ [105, 102] ∧ o ≠ [109, 97, 116, 99, 104] ∧ o ≠ [116, 114, 121] := by decide
        obtain ⟨k1, k2, k3, k4, k5⟩ := key o ho
        simp [ew, wd, k1, k2, k3, k4, k5]
      obtain ⟨x, rfl⟩ := len_one (l := l) (by omega)
      have e : T.map er = wd op :: (tk x ++ wd [41] :: R') := by rw [e]; simp [tks]
      obtain ⟨w1, w2, w3, w4, w5⟩ := hws op hone.1 (tk x ++ wd [41] :: R')
      rw [← e] at w1 w2 w3 w4 w5
      exact pass_good w1 w2 w3 w4 w5 (one_good hone.1 (fun T R' e => says_atom (ih x (by simp)) (f + 1) e) e)
end Go.Em7

namespace Go.Em7
open Go.RowKit Go.Em4 Go.Em5 Go.Em6
set_option linter.unusedSimpArgs false

theorem map_head {T : List Tok} {k : K} {K1 : List K} (h : T.map er = k :: K1) : ∃ t r, T = t :: r ∧ t.kind = k.1 ∧ t.text = k.2.1 ∧ t.num = k.2.2 ∧ r.map er = K1 := by
  cases T with
  | nil => simp at h
  | cons t r =>
    simp only [List.map_cons, List.cons.injEq] at h
    obtain ⟨rfl, h2⟩ := h
    exact ⟨t, r, rfl, rfl, rfl, rfl, h2⟩
theorem atom_paren {E A : List Tok → R} {t : Tok} {r : List Tok} (hk : t.kind = 4) (ht : t.text = [40]) : atomS E A (t :: r) = roundS E t.pos r := by simp [atomS, isW, hk, ht]
theorem kids_nil {l : List Nd} (h : l.length = 0) : l = [] := List.length_eq_zero_iff.1 h

theorem inner_head {op nm ar : List Int} {n p : Int} {l : List Nd} {r : List Tok} {R' : List K} (he : each (.mk op nm ar n p l) = true) (hx : op ∉ [oInt, oBool, oUnit, oNil, oStr, oVar, oPair, oGet]) (e : r.map er = innerT op nm ar (tks l) ++ wd [41] :: R') : ew [41] (r.map er) = false := by
  obtain ⟨hk, -⟩ := each_parts he
  rw [e]
  unfold innerT
  by_cases hs : signOf op ≠ []
  · rw [if_pos hs]
    obtain ⟨x, y, rfl⟩ := len_two (l := l) (by have := sign_two hs; omega)
    rw [tks_get [x, y] 0 x rfl]
    simp only [List.append_assoc]
    exact (tk_head x _).2.2.2.2.2.2.1
  rw [if_neg hs]
  by_cases h1 : op = oFun
  · rw [if_pos h1]; rfl
  rw [if_neg h1]
  by_cases h2 : op = oLet
  · rw [if_pos h2]; rfl
  rw [if_neg h2]
  by_cases h3 : op = oRec
  · rw [if_pos h3]; rfl
  rw [if_neg h3]
  by_cases h4 : op = oIf
  · rw [if_pos h4]; rfl
  rw [if_neg h4]
  by_cases h5 : op = oMatch
  · rw [if_pos h5]; rfl
  rw [if_neg h5]
  by_cases h6 : op = oTry
  · rw [if_pos h6]; rfl
  rw [if_neg h6]
  have hrest : op ∈ restOps := rest_ops hk hx hs (by simp [h1, h2, h3, h4, h5, h6])
  have key : ∀ o ∈ restOps, o ≠ [41] := by decide
  have := key op hrest
  simp [ew, wd, this]

theorem says_all : ∀ t : Nd, each t = true → Says t := by
  intro t
  induction t using Nd.ind with
  | h op nm ar n p l ih =>
    intro he f
    have ih : ∀ t ∈ l, Says t := fun t ht => ih t ht (each_kids he t ht)
    cases f with
    | zero => exact ⟨fun T R' _ => .inl ⟨_, rfl⟩, fun T R' _ _ => .inl ⟨_, rfl⟩⟩
    | succ f =>
      have hAt : ∀ T R', T.map er = tk (.mk op nm ar n p l) ++ R' → Good ((lev (f + 1)).2 T) (.mk op nm ar n p l) R' := by
        intro T R' e
        show Good (atomS (lev f).1 (lev f).2 T) _ _
        obtain ⟨hk, hA, hB, hN⟩ := each_parts he
        rw [tk] at e
        unfold tkB at e
        by_cases h1 : op = oInt
        · rw [if_pos h1] at e
          subst h1
          obtain rfl : nm = [] := of_decide_eq_true hA
          obtain rfl : ar = [] := of_decide_eq_true hB
          obtain rfl := kids_nil (l := l) (by have e : kidsN oInt = 0 := (by decide); omega)
          obtain ⟨t, r, rfl, k1, k2, k3, k4⟩ := map_head e
          have e2 : atomS (lev f).1 (lev f).2 (t :: r) = .ok (.mk [105, 110, 116] [] [] t.num t.pos [], r) := by simp [atomS, k1]
          rw [e2, k3]
          exact good_ok (same_nd rfl) k4
        rw [if_neg h1] at e
        by_cases h2 : op = oBool
        · rw [if_pos h2] at e
          subst h2
          obtain rfl : nm = [] := of_decide_eq_true hA
          obtain rfl : ar = [] := of_decide_eq_true hB
          obtain rfl := kids_nil (l := l) (by have e : kidsN oBool = 0 := (by decide); omega)
          by_cases hn : n = 1
          · rw [if_pos hn] at e
            subst hn
            obtain ⟨t, r, rfl, k1, k2, k3, k4⟩ := map_head e
            have e2 : atomS (lev f).1 (lev f).2 (t :: r) = .ok (.mk [98, 111, 111, 108] [] [] 1 t.pos [], r) := by simp [atomS, isW, k1, k2, wd]
            rw [e2]
            exact good_ok (same_nd rfl) k4
          · rw [if_neg hn] at e
            have hn0 : n = 0 := by
              have hN : (decide (n = 0) || decide (n = 1)) = true := hN
              simp [hn] at hN
              exact hN
            subst hn0
            obtain ⟨t, r, rfl, k1, k2, k3, k4⟩ := map_head e
            have e2 : atomS (lev f).1 (lev f).2 (t :: r) = .ok (.mk [98, 111, 111, 108] [] [] 0 t.pos [], r) := by simp [atomS, isW, k1, k2, wd]
            rw [e2]
            exact good_ok (same_nd rfl) k4
        rw [if_neg h2] at e
        by_cases h3 : op = oUnit
        · rw [if_pos h3] at e
          subst h3
          obtain rfl : nm = [] := of_decide_eq_true hA
          obtain rfl : ar = [] := of_decide_eq_true hB
          obtain rfl : n = 0 := of_decide_eq_true hN
          obtain rfl := kids_nil (l := l) (by have e : kidsN oUnit = 0 := (by decide); omega)
          obtain ⟨t, r, rfl, k1, k2, k3, k4⟩ := map_head e
          rw [atom_paren k1 k2]
          unfold roundS
          exact good_t (by rw [k4]; rfl) (good_ok (same_nd rfl) (tail_er k4))
        rw [if_neg h3] at e
        by_cases h4 : op = oNil
        · rw [if_pos h4] at e
          subst h4
          obtain rfl : nm = [] := of_decide_eq_true hA
          obtain rfl : ar = [] := of_decide_eq_true hB
          obtain rfl : n = 0 := of_decide_eq_true hN
          obtain rfl := kids_nil (l := l) (by have e : kidsN oNil = 0 := (by decide); omega)
          obtain ⟨t, r, rfl, k1, k2, k3, k4⟩ := map_head e
          have e2 : atomS (lev f).1 (lev f).2 (t :: r) = bnd0 (need [93] r) fun L => .ok (nd [110, 105, 108] t.pos [], L) := by simp [atomS, isW, k1, k2, wd]
          rw [e2]
          exact good_need k4 (fun T' a => good_ok (same_nd rfl) a)
        rw [if_neg h4] at e
        by_cases h5 : op = oStr
        · rw [if_pos h5] at e
          subst h5
          obtain rfl : ar = [] := of_decide_eq_true hB
          obtain rfl : n = 0 := of_decide_eq_true hN
          obtain rfl := kids_nil (l := l) (by have e : kidsN oStr = 0 := (by decide); omega)
          obtain ⟨t, r, rfl, k1, k2, k3, k4⟩ := map_head e
          have e2 : atomS (lev f).1 (lev f).2 (t :: r) = .ok (.mk [115, 116, 114] t.text [] 0 t.pos [], r) := by simp [atomS, k1]
          rw [e2, k2]
          exact good_ok (same_nd rfl) k4
        rw [if_neg h5] at e
        by_cases h6 : op = oVar
        · rw [if_pos h6] at e
          subst h6
          obtain rfl : ar = [] := of_decide_eq_true hB
          obtain rfl : n = 0 := of_decide_eq_true hN
          obtain rfl := kids_nil (l := l) (by have e : kidsN oVar = 0 := (by decide); omega)
          obtain ⟨t, r, rfl, k1, k2, k3, k4⟩ := map_head e
          have e2 : atomS (lev f).1 (lev f).2 (t :: r) = .ok (.mk [118, 97, 114] t.text [] 0 t.pos [], r) := by simp [atomS, k1, nmT]
          rw [e2, k2]
          exact good_ok (same_nd rfl) k4
        rw [if_neg h6] at e
        by_cases h7 : op = oPair
        · rw [if_pos h7] at e
          subst h7
          obtain rfl : nm = [] := of_decide_eq_true hA
          obtain rfl : ar = [] := of_decide_eq_true hB
          obtain rfl : n = 0 := of_decide_eq_true hN
          obtain ⟨x, y, rfl⟩ := len_two (l := l) (by have e : kidsN oPair = 2 := (by decide); omega)
          rw [tks_get [x, y] 0 x rfl, tks_get [x, y] 1 y rfl] at e
          have e : T.map er = wd [40] :: (tk x ++ wd [44] :: (tk y ++ wd [41] :: R')) := by rw [e]; simp
          obtain ⟨t, r, rfl, k1, k2, k3, k4⟩ := map_head e
          rw [atom_paren k1 k2]
          unfold roundS
          have hh := (tk_head x (wd [44] :: (tk y ++ wd [41] :: R'))).2.2.2.2.2.2.1
          refine good_f (by rw [k4]; exact hh) (good_bnd (says_expr (ih x (by simp)) f (ends_wd (by decide)) k4) (fun m T1 g1 g2 => good_t (by rw [g2]; rfl) (good_bnd (says_expr (ih y (by simp)) f (ends_rp _) (tail_er g2)) (fun m2 T2 g3 g4 => good_need g4 (fun T3 a3 => good_ok (same_nd (sames2 g1 g3)) a3)))))
        rw [if_neg h7] at e
        by_cases h8 : op = oGet
        · rw [if_pos h8] at e
          subst h8
          obtain rfl : nm = [] := of_decide_eq_true hA
          obtain rfl : ar = [] := of_decide_eq_true hB
          obtain rfl : n = 0 := of_decide_eq_true hN
          obtain ⟨x, rfl⟩ := len_one (l := l) (by have e : kidsN oGet = 1 := (by decide); omega)
          rw [tks_get [x] 0 x rfl] at e
          obtain ⟨t, r, rfl, k1, k2, k3, k4⟩ := map_head e
          have e2 : atomS (lev f).1 (lev f).2 (t :: r) = bnd ((lev f).2 r) fun a L => .ok (nd [103, 101, 116] t.pos [a], L) := by simp [atomS, isW, k1, k2, wd]
          rw [e2]
          exact good_bnd (says_atom (ih x (by simp)) f k4) (fun m T1 g1 g2 => good_ok (same_nd (sames1 g1)) g2)
        rw [if_neg h8] at e
        have e : T.map er = wd [40] :: (innerT op nm ar (tks l) ++ wd [41] :: R') := by rw [e]; simp
        obtain ⟨t, r, rfl, k1, k2, k3, k4⟩ := map_head e
        rw [atom_paren k1 k2]
        unfold roundS
        have hg := inner_good he ih (by simp [h1, h2, h3, h4, h5, h6, h7, h8]) f r R' k4
        refine good_f (inner_head he (by simp [h1, h2, h3, h4, h5, h6, h7, h8]) k4) (good_bnd hg (fun m T1 g1 g2 => good_f (by rw [g2]; rfl) (good_need g2 (fun T3 a3 => good_ok g1 a3))))
      exact ⟨hAt, expr_of_atom f hAt⟩
end Go.Em7

namespace Go.Em7
open Go.RowKit Go.Em4 Go.Em5 Go.Em6

/-- It is the expression, places aside; or the text is too long, or too deep. -/
theorem parse_text {t : Nd} (h : each t = true) : parse (text t) = .error (7, 0) ∨ (∃ p, parse (text t) = .error (3, p)) ∨ ∃ m, parse (text t) = .ok m ∧ same m t = true := by
  unfold parse
  by_cases hl : 2000 < (text t).length
  · left; rw [if_pos hl]
  · right
    rw [if_neg hl]
    obtain ⟨T, hT, hm⟩ := toks_text h
    rw [hT]
    simp only
    unfold parseT
    rcases says_expr (says_all t h) 40 (ends_end []) hm with ⟨p, e⟩ | ⟨m, T', e, h1, h2⟩
    · left; rw [e]; exact ⟨p, rfl⟩
    · right
      rw [e]
      refine ⟨m, ?_, h1⟩
      obtain ⟨k, r, rfl, k1, -⟩ := map_head h2
      simp [bnd, k1]
end Go.Em7

namespace Go.Em6
open Go.RowKit Go.Em4 Go.Em5

/-- Of fewer tokens than n it never says 'too deep'. -/
def Nt (n : Nat) (F : List Tok → R) : Prop := ∀ L, L.length < n → ∀ p, F L ≠ .error (3, p)
theorem bnd_err {α β : Type} {r : Except Err (α × List Tok)} {f : α → List Tok → Except Err β} {e : Err} (h : bnd r f = .error e) : r = .error e ∨ ∃ a L, r = .ok (a, L) ∧ f a L = .error e := by
  cases r with
  | error x => left; simpa [bnd] using h
  | ok p => exact .inr ⟨p.1, p.2, rfl, h⟩
theorem bnd0_err {β : Type} {r : St} {f : List Tok → Except Err β} {e : Err} (h : bnd0 r f = .error e) : r = .error e ∨ ∃ L, r = .ok L ∧ f L = .error e := by
  cases r with
  | error x => left; simpa [bnd0] using h
  | ok L => exact .inr ⟨L, rfl, h⟩
theorem need_no3 {s : List Int} {L : List Tok} {p : Nat} : need s L ≠ .error (3, p) := by
  unfold need
  split
  · intro h; cases h
  · intro h; cases h
theorem name_no3 {L : List Tok} {p : Nat} : name L ≠ .error (3, p) := by
  cases L with
  | nil => intro h; cases h
  | cons t r =>
    intro h
    simp only [name] at h
    split at h <;> simp at h

theorem nt_set {m : Nat} {C : List Tok → R} (hC : Nt m C) (hs : Shr C) : Nt m (setS C) := by
  intro L hL p h
  rcases bnd_err h with h1 | ⟨a, L1, h1, h2⟩
  · exact hC L hL p h1
  · have l1 := hs _ _ _ h1
    split at h2
    · rename_i hw
      have l2 := isW_len hw
      rcases bnd_err h2 with h3 | ⟨b, L2, h3, h4⟩
      · exact hC _ (by omega) p h3
      · cases h4
    · cases h2
theorem nt_cmp {m : Nat} {C : List Tok → R} (hC : Nt m C) (hs : Shr C) : Nt m (cmpS C) := by
  intro L hL p h
  rcases bnd_err h with h1 | ⟨a, L1, h1, h2⟩
  · exact hC L hL p h1
  · have l1 := hs _ _ _ h1
    split at h2
    · rename_i hw
      have l2 := isW_len hw
      rcases bnd_err h2 with h3 | ⟨b, L2, h3, h4⟩
      · exact hC _ (by omega) p h3
      · cases h4
    · split at h2
      · rename_i hw
        have l2 := isW_len hw
        rcases bnd_err h2 with h3 | ⟨b, L2, h3, h4⟩
        · exact hC _ (by omega) p h3
        · cases h4
      · cases h2
theorem nt_consF {m : Nat} {C : List Tok → R} (hC : Nt m C) (hs : Shr C) : ∀ f, Nt m (consF C f)
  | 0, L, _, p, h => by simp [consF] at h
  | f + 1, L, hL, p, h => by
    unfold consF at h
    rcases bnd_err h with h1 | ⟨a, L1, h1, h2⟩
    · exact hC L hL p h1
    · have l1 := hs _ _ _ h1
      split at h2
      · rename_i hw
        have l2 := isW_len hw
        rcases bnd_err h2 with h3 | ⟨b, L2, h3, h4⟩
        · exact nt_consF hC hs f _ (by omega) p h3
        · cases h4
      · cases h2
theorem nt_cons {m : Nat} {C : List Tok → R} (hC : Nt m C) (hs : Shr C) : Nt m (consS C) := fun L hL p h => nt_consF hC hs _ L hL p h
theorem nt_sumF {m : Nat} {C : List Tok → R} (hC : Nt m C) (hs : Shr C) : ∀ f a, Nt m (sumF C f a)
  | 0, a, L, _, p, h => by simp [sumF] at h
  | f + 1, a, L, hL, p, h => by
    unfold sumF at h
    split at h
    · rename_i hw
      have l2 := isW_len hw
      rcases bnd_err h with h1 | ⟨b, L1, h1, h2⟩
      · exact hC _ (by omega) p h1
      · have l1 := hs _ _ _ h1
        exact nt_sumF hC hs f _ _ (by omega) p h2
    · split at h
      · rename_i hw
        have l2 := isW_len hw
        rcases bnd_err h with h1 | ⟨b, L1, h1, h2⟩
        · exact hC _ (by omega) p h1
        · have l1 := hs _ _ _ h1
          exact nt_sumF hC hs f _ _ (by omega) p h2
      · split at h
        · rename_i hw
          have l2 := isW_len hw
          rcases bnd_err h with h1 | ⟨b, L1, h1, h2⟩
          · exact hC _ (by omega) p h1
          · have l1 := hs _ _ _ h1
            exact nt_sumF hC hs f _ _ (by omega) p h2
        · cases h
theorem nt_sum {m : Nat} {C : List Tok → R} (hC : Nt m C) (hs : Shr C) : Nt m (sumS C) := by
  intro L hL p h
  rcases bnd_err h with h1 | ⟨a, L1, h1, h2⟩
  · exact hC L hL p h1
  · have l1 := hs _ _ _ h1
    exact nt_sumF hC hs _ _ _ (by omega) p h2
theorem nt_prodF {m : Nat} {C : List Tok → R} (hC : Nt m C) (hs : Shr C) : ∀ f a, Nt m (prodF C f a)
  | 0, a, L, _, p, h => by simp [prodF] at h
  | f + 1, a, L, hL, p, h => by
    unfold prodF at h
    split at h
    · rename_i hw
      have l2 := isW_len hw
      rcases bnd_err h with h1 | ⟨b, L1, h1, h2⟩
      · exact hC _ (by omega) p h1
      · have l1 := hs _ _ _ h1
        exact nt_prodF hC hs f _ _ (by omega) p h2
    · cases h
theorem nt_prod {m : Nat} {C : List Tok → R} (hC : Nt m C) (hs : Shr C) : Nt m (prodS C) := by
  intro L hL p h
  rcases bnd_err h with h1 | ⟨a, L1, h1, h2⟩
  · exact hC L hL p h1
  · have l1 := hs _ _ _ h1
    exact nt_prodF hC hs _ _ _ (by omega) p h2
theorem nt_appF {m : Nat} {C : List Tok → R} (hC : Nt m C) (hs : Shr C) : ∀ f a, Nt m (appF C f a)
  | 0, a, L, _, p, h => by simp [appF] at h
  | f + 1, a, L, hL, p, h => by
    unfold appF at h
    split at h
    · rcases bnd_err h with h1 | ⟨b, L1, h1, h2⟩
      · exact hC _ hL p h1
      · have l1 := hs _ _ _ h1
        exact nt_appF hC hs f _ _ (by omega) p h2
    · cases h
theorem nt_app {m : Nat} {A : List Tok → R} (hA : Nt m A) (hs : Shr A) : Nt m (appS A) := by
  intro L hL p h
  unfold appS at h
  have ht : L.tail.length < m := by simp; omega
  split at h
  · rcases bnd_err h with h1 | ⟨b, L1, h1, h2⟩
    · exact hA _ ht p h1
    · cases h2
  · split at h
    · rcases bnd_err h with h1 | ⟨b, L1, h1, h2⟩
      · exact hA _ ht p h1
      · have l1 := hs _ _ _ h1
        rcases bnd_err h2 with h3 | ⟨c, L2, h3, h4⟩
        · exact hA _ (by omega) p h3
        · cases h4
    · rcases bnd_err h with h1 | ⟨b, L1, h1, h2⟩
      · exact hA _ hL p h1
      · have l1 := hs _ _ _ h1
        exact nt_appF hA hs _ _ _ (by omega) p h2
theorem nt_round {m : Nat} {E : List Tok → R} (hE : Nt m E) (hs : Shr E) (q : Nat) : Nt m (roundS E q) := by
  intro L hL p h
  unfold roundS at h
  split at h
  · cases h
  · rcases bnd_err h with h1 | ⟨a, L1, h1, h2⟩
    · exact hE L hL p h1
    · have l1 := hs _ _ _ h1
      split at h2
      · rename_i hw
        have l2 := isW_len hw
        rcases bnd_err h2 with h3 | ⟨b, L2, h3, h4⟩
        · exact hE _ (by omega) p h3
        · rcases bnd0_err h4 with h5 | ⟨L3, h5, h6⟩
          · exact need_no3 h5
          · cases h6
      · rcases bnd0_err h2 with h5 | ⟨L3, h5, h6⟩
        · exact need_no3 h5
        · cases h6
theorem nt_atom {m : Nat} {E A : List Tok → R} (hE : Nt m E) (hA : Nt m A) (hs : Shr E) : Nt (m + 1) (atomS E A) := by
  intro L hL p h
  cases L with
  | nil => simp [atomS] at h
  | cons t r =>
    simp only [List.length_cons] at hL
    have hr : r.length < m := by omega
    simp only [atomS] at h
    split at h
    · cases h
    · split at h
      · cases h
      · split at h
        · cases h
        · split at h
          · cases h
          · split at h
            · cases h
            · split at h
              · rcases bnd_err h with h1 | ⟨a, L1, h1, h2⟩
                · exact hA _ hr p h1
                · cases h2
              · split at h
                · rcases bnd0_err h with h1 | ⟨L1, h1, h2⟩
                  · exact need_no3 h1
                  · cases h2
                · split at h
                  · exact nt_round hE hs _ _ hr p h
                  · simp at h
theorem nt_letT {m : Nat} {E : List Tok → R} (hE : Nt m E) (hs : Shr E) {op x y : List Int} {q : Nat} : Nt m (letT E op x y q) := by
  intro L hL p h
  rcases bnd0_err h with h1 | ⟨L3, h1, h2⟩
  · exact need_no3 h1
  have l1 := need_len h1
  rcases bnd_err h2 with h3 | ⟨a, L4, h3, h4⟩
  · exact hE _ (by omega) p h3
  have l2 := hs _ _ _ h3
  rcases bnd0_err h4 with h5 | ⟨L5, h5, h6⟩
  · exact need_no3 h5
  have l3 := need_len h5
  rcases bnd_err h6 with h7 | ⟨b, L6, h7, h8⟩
  · exact hE _ (by omega) p h7
  cases h8
theorem nt_let {m : Nat} {E : List Tok → R} (hE : Nt m E) (hs : Shr E) (q : Nat) : Nt m (letS E q) := by
  intro L hL p h
  unfold letS at h
  split at h
  · rename_i hw
    have l0 := isW_len hw
    rcases bnd_err h with h1 | ⟨x, L1, h1, h2⟩
    · exact name_no3 h1
    have l1 := name_len h1
    rcases bnd_err h2 with h3 | ⟨y, L2, h3, h4⟩
    · exact name_no3 h3
    have l2 := name_len h3
    exact nt_letT hE hs _ (by omega) p h4
  · rcases bnd_err h with h1 | ⟨x, L1, h1, h2⟩
    · exact name_no3 h1
    have l1 := name_len h1
    exact nt_letT hE hs _ (by omega) p h2
theorem nt_match {m : Nat} {E : List Tok → R} (hE : Nt m E) (hs : Shr E) (q : Nat) : Nt m (matchS E q) := by
  intro L hL p h
  rcases bnd_err h with e | ⟨a, L1, h1, h⟩
  · exact hE _ hL p e
  have l1 := hs _ _ _ h1
  rcases bnd0_err h with e | ⟨L2, h2, h⟩
  · exact need_no3 e
  have l2 := need_len h2
  rcases bnd0_err h with e | ⟨L3, h3, h⟩
  · exact need_no3 e
  have l3 := need_len h3
  rcases bnd0_err h with e | ⟨L4, h4, h⟩
  · exact need_no3 e
  have l4 := need_len h4
  rcases bnd0_err h with e | ⟨L5, h5, h⟩
  · exact need_no3 e
  have l5 := need_len h5
  rcases bnd_err h with e | ⟨b, L6, h6, h⟩
  · exact hE _ (by omega) p e
  have l6 := hs _ _ _ h6
  rcases bnd0_err h with e | ⟨L7, h7, h⟩
  · exact need_no3 e
  have l7 := need_len h7
  rcases bnd_err h with e | ⟨x, L8, h8, h⟩
  · exact name_no3 e
  have l8 := name_len h8
  rcases bnd0_err h with e | ⟨L9, h9, h⟩
  · exact need_no3 e
  have l9 := need_len h9
  rcases bnd_err h with e | ⟨y, L10, h10, h⟩
  · exact name_no3 e
  have l10 := name_len h10
  rcases bnd0_err h with e | ⟨L11, h11, h⟩
  · exact need_no3 e
  have l11 := need_len h11
  rcases bnd_err h with e | ⟨c, L12, h12, h⟩
  · exact hE _ (by omega) p e
  cases h
theorem nt_expr {m : Nat} {S E : List Tok → R} (hS : Nt (m + 1) S) (hSs : Shr S) (hE : Nt m E) (hs : Shr E) : Nt (m + 1) (exprS S E) := by
  intro L hL p h
  unfold exprS at h
  split at h
  · rename_i hw
    have := isW_len hw
    exact nt_let hE hs _ _ (by omega) p h
  · split at h
    · rename_i hw
      have := isW_len hw
      rcases bnd_err h with e | ⟨x, L1, h1, h⟩
      · exact name_no3 e
      have l1 := name_len h1
      rcases bnd0_err h with e | ⟨L2, h2, h⟩
      · exact need_no3 e
      have l2 := need_len h2
      rcases bnd_err h with e | ⟨a, L3, h3, h⟩
      · exact hE _ (by omega) p e
      cases h
    · split at h
      · rename_i hw
        have := isW_len hw
        rcases bnd_err h with e | ⟨a, L1, h1, h⟩
        · exact hE _ (by omega) p e
        have l1 := hs _ _ _ h1
        rcases bnd0_err h with e | ⟨L2, h2, h⟩
        · exact need_no3 e
        have l2 := need_len h2
        rcases bnd_err h with e | ⟨b, L3, h3, h⟩
        · exact hE _ (by omega) p e
        have l3 := hs _ _ _ h3
        rcases bnd0_err h with e | ⟨L4, h4, h⟩
        · exact need_no3 e
        have l4 := need_len h4
        rcases bnd_err h with e | ⟨c, L5, h5, h⟩
        · exact hE _ (by omega) p e
        cases h
      · split at h
        · rename_i hw
          have := isW_len hw
          exact nt_match hE hs _ _ (by omega) p h
        · split at h
          · rename_i hw
            have := isW_len hw
            rcases bnd_err h with e | ⟨a, L1, h1, h⟩
            · exact hE _ (by omega) p e
            have l1 := hs _ _ _ h1
            rcases bnd0_err h with e | ⟨L2, h2, h⟩
            · exact need_no3 e
            have l2 := need_len h2
            rcases bnd_err h with e | ⟨x, L3, h3, h⟩
            · exact name_no3 e
            have l3 := name_len h3
            rcases bnd0_err h with e | ⟨L4, h4, h⟩
            · exact need_no3 e
            have l4 := need_len h4
            rcases bnd_err h with e | ⟨b, L5, h5, h⟩
            · exact hE _ (by omega) p e
            cases h
          · rcases bnd_err h with e | ⟨a, L1, h1, h⟩
            · exact hS _ hL p e
            have l1 := hSs _ _ _ h1
            split at h
            · rename_i hw
              have := isW_len hw
              rcases bnd_err h with e | ⟨b, L2, h2, h⟩
              · exact hE _ (by omega) p e
              cases h
            · cases h
theorem nt_lev : ∀ f, Nt f (lev f).1 ∧ Nt f (lev f).2
  | 0 => ⟨fun L h => (by omega), fun L h => (by omega)⟩
  | f + 1 => by
    obtain ⟨h1, h2⟩ := nt_lev f
    obtain ⟨s1, s2⟩ := shr_lev f
    have h3 := nt_atom h1 h2 s1
    have s3 := shr_atom s1 s2
    have s4 := shr_app s3
    have s5 := shr_prod s4
    have s6 := shr_sum s5
    have s7 := shr_cons s6
    have s8 := shr_cmp s7
    exact ⟨nt_expr (nt_set (nt_cmp (nt_cons (nt_sum (nt_prod (nt_app h3 s3) s4) s5) s6) s7) s8) (shr_set s8) h1 s1, h3⟩
end Go.Em6

namespace Go.Em7
open Go.RowKit Go.Em4 Go.Em5 Go.Em6

mutual
theorem same_text : ∀ a b : Nd, same a b = true → text a = text b
  | .mk op nm ar n p l, .mk op' nm' ar' n' p' l', h => by
    simp only [same, Bool.and_eq_true, decide_eq_true_eq] at h
    obtain ⟨rfl, rfl, rfl, rfl, h⟩ := h
    show textB _ _ _ _ (texts l) = textB _ _ _ _ (texts l')
    rw [sames_texts l l' h]
theorem sames_texts : ∀ l m : List Nd, sames l m = true → texts l = texts m
  | [], [], _ => rfl
  | [], _ :: _, h => by simp [sames] at h
  | _ :: _, [], h => by simp [sames] at h
  | a :: l, b :: m, h => by
    simp only [sames, Bool.and_eq_true] at h
    simp only [texts]
    rw [same_text a b h.1, sames_texts l m h.2]
end
mutual
theorem same_sym : ∀ a b : Nd, same a b = true → same b a = true
  | .mk op nm ar n p l, .mk op' nm' ar' n' p' l', h => by
    simp only [same, Bool.and_eq_true, decide_eq_true_eq] at h ⊢
    obtain ⟨rfl, rfl, rfl, rfl, h⟩ := h
    exact ⟨rfl, rfl, rfl, rfl, sames_sym l l' h⟩
theorem sames_sym : ∀ l m : List Nd, sames l m = true → sames m l = true
  | [], [], _ => rfl
  | [], _ :: _, h => by simp [sames] at h
  | _ :: _, [], h => by simp [sames] at h
  | a :: l, b :: m, h => by
    simp only [sames, Bool.and_eq_true] at h ⊢
    exact ⟨same_sym a b h.1, sames_sym l m h.2⟩
end
mutual
theorem same_trans : ∀ a b c : Nd, same a b = true → same b c = true → same a c = true
  | .mk op nm ar n p l, .mk op' nm' ar' n' p' l', .mk op2 nm2 ar2 n2 p2 l2, h, k => by
    simp only [same, Bool.and_eq_true, decide_eq_true_eq] at h k ⊢
    obtain ⟨rfl, rfl, rfl, rfl, h⟩ := h
    obtain ⟨rfl, rfl, rfl, rfl, k⟩ := k
    exact ⟨rfl, rfl, rfl, rfl, sames_trans l l' l2 h k⟩
theorem sames_trans : ∀ l m o : List Nd, sames l m = true → sames m o = true → sames l o = true
  | [], [], [], _, _ => rfl
  | [], _ :: _, _, h, _ => by simp [sames] at h
  | _ :: _, [], _, h, _ => by simp [sames] at h
  | _, [], _ :: _, _, h => by simp [sames] at h
  | _, _ :: _, [], _, h => by simp [sames] at h
  | a :: l, b :: m, c :: o, h, k => by
    simp only [sames, Bool.and_eq_true] at h k ⊢
    exact ⟨same_trans a b c h.1 k.1, sames_trans l m o h.2 k.2⟩
end
theorem text_inj {a b : Nd} (ha : each a = true) (hb : each b = true) (h : text a = text b) : same a b = true := by
  obtain ⟨T, hT, hm⟩ := toks_text ha
  obtain ⟨T', hT', hm'⟩ := toks_text hb
  rw [← h, hT] at hT'
  obtain rfl : T = T' := by simpa using hT'
  have hn := (nt_lev (T.length + 1)).1 T (by omega)
  rcases says_expr (says_all a ha) (T.length + 1) (ends_end []) hm with ⟨p, e⟩ | ⟨m, T1, e, h1, -⟩
  · exact absurd e (hn p)
  rcases says_expr (says_all b hb) (T.length + 1) (ends_end []) hm' with ⟨p, e'⟩ | ⟨m', T2, e', h2, -⟩
  · exact absurd e' (hn p)
  rw [e] at e'
  simp only [Except.ok.injEq, Prod.mk.injEq] at e'
  obtain ⟨rfl, -⟩ := e'
  exact same_trans _ _ _ (same_sym _ _ h1) h2
/-- ShowUnlike's words. -/
theorem text_iff {a b : Nd} (ha : each a = true) (hb : each b = true) : decide (text a = text b) = same a b := by
  cases hs : same a b with
  | true => exact decide_eq_true (same_text a b hs)
  | false => exact decide_eq_false (fun h => by rw [text_inj ha hb h] at hs; cases hs)
end Go.Em7

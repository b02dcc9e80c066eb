/-
  Plain mathematics of P3: words that fall, and Duval's cutting. Nothing of the program.
-/
import GoSem.Op.String
namespace Go.Proofs.Ytkiindkoiomieaa.Duv

/-- The first n letters of t: each end but the whole parts from it by a greater letter. -/
def Lyn (t : Nat → Nat) (n : Nat) : Prop := ∀ i, 0 < i → i < n → ∃ j, i + j < n ∧ (∀ k, k < j → t (i + k) = t k) ∧ t j < t (i + j)

/-- What Duval's loop keeps: the first L letters are a falling word, and the first e letters are it, over and over. -/
structure Inv (t : Nat → Nat) (L e : Nat) : Prop where
  pos : 1 ≤ L
  le : L ≤ e
  lyn : Lyn t L
  per : ∀ j, L ≤ j → j < e → t j = t (j - L)

theorem Inv.start (t : Nat → Nat) : Inv t 1 1 := ⟨Nat.le_refl _, Nat.le_refl _, fun i h0 h1 => by omega, fun j h0 h1 => by omega⟩

theorem Inv.same {t : Nat → Nat} {L e : Nat} (h : Inv t L e) (hs : t (e - L) = t e) : Inv t L (e + 1) :=
  ⟨h.pos, Nat.le_succ_of_le h.le, h.lyn, fun j h0 h1 => by
    by_cases hj : j < e
    · exact h.per j h0 hj
    · have : j = e := by omega
      subst this
      exact hs.symm⟩

theorem Inv.more {t : Nat → Nat} {L e : Nat} (h : Inv t L e) (hs : t (e - L) < t e) : Inv t (e + 1) (e + 1) := by
  have hp := h.pos
  have hle := h.le
  refine ⟨by omega, Nat.le_refl _, ?_, fun j h0 h1 => by omega⟩
  intro i
  induction i using Nat.strongRecOn with
  | ind i ih =>
    intro h0 h1
    by_cases hiL : i < L
    · obtain ⟨j, a, b, c⟩ := h.lyn i h0 hiL
      exact ⟨j, by omega, b, c⟩
    · by_cases hE : i = L
      · subst hE
        refine ⟨e - i, by omega, fun k hk => ?_, ?_⟩
        · have := h.per (i + k) (by omega) (by omega)
          rw [this]
          congr 1
          omega
        · rw [show i + (e - i) = e by omega]
          exact hs
      · obtain ⟨j, a, b, c⟩ := ih (i - L) (by omega) (by omega) (by omega)
        by_cases hj : i + j < e
        · refine ⟨j, by omega, fun k hk => ?_, ?_⟩
          · rw [h.per (i + k) (by omega) (by omega), ← b k hk]
            congr 1
            omega
          · rw [h.per (i + j) (by omega) hj]
            rw [show i + j - L = i - L + j by omega]
            exact c
        · refine ⟨e - i, by omega, fun k hk => ?_, ?_⟩
          · rw [h.per (i + k) (by omega) (by omega), ← b k (by omega)]
            congr 1
            omega
          · rw [show i + (e - i) = e by omega]
            have hle2 : t (e - i) ≤ t (e - L) := by
              by_cases hjj : e - i < j
              · have := b (e - i) hjj
                rw [show i - L + (e - i) = e - L by omega] at this
                omega
              · have hj2 : e - i = j := by omega
                rw [← hj2, show i - L + (e - i) = e - L by omega] at c
                omega
            omega

theorem Inv.times {t : Nat → Nat} {L e : Nat} (h : Inv t L e) : ∀ q k, q * L + k < e → t (q * L + k) = t k := by
  intro q
  induction q with
  | zero => intro k _; simp
  | succ q ih =>
    intro k hk
    have hp := h.pos
    have e1 : (q + 1) * L + k = q * L + k + L := by rw [Nat.succ_mul]; omega
    rw [e1, h.per _ (by omega) (by omega), Nat.add_sub_cancel]
    exact ih k (by omega)

/-! ### Lists of bytes -/
/-- A letter, as a number. -/
def bt (l : List UInt8) (k : Nat) : Nat := (l[k]?.getD 0).toNat

theorem bt_drop (l : List UInt8) (m k : Nat) : bt (l.drop m) k = bt l (m + k) := by simp [bt]
theorem bt_take (l : List UInt8) (m k : Nat) (h : k < m) : bt (l.take m) k = bt l k := by simp [bt, h]

theorem ext_bt {a b : List UInt8} (hl : a.length = b.length) (h : ∀ k, k < a.length → bt a k = bt b k) : a = b := by
  apply List.ext_getElem hl
  intro k h1 h2
  have := h k h1
  simp only [bt, List.getElem?_eq_getElem h1, List.getElem?_eq_getElem h2, Option.getD_some] at this
  exact UInt8.toNat_inj.1 this

theorem less_of : ∀ (j : Nat) (a b : List UInt8), j < a.length → j < b.length → (∀ k, k < j → bt a k = bt b k) → bt a j < bt b j → Op.bytesLess a b = true
  | 0, x :: a, y :: b, _, _, _, h => by
    simp [bt] at h
    simp [Op.bytesLess, UInt8.lt_iff_toNat_lt, h]
  | j + 1, x :: a, y :: b, h1, h2, h3, h => by
    have e0 := h3 0 (by omega)
    simp [bt] at e0
    have := less_of j a b (by simpa using h1) (by simpa using h2) (fun k hk => by simpa [bt] using h3 (k + 1) (by omega)) (by simpa [bt] using h)
    simp [Op.bytesLess, UInt8.toNat_inj.1 e0, this]
  | _, [], _, h, _, _, _ => by simp at h
  | _, _ :: _, [], _, h, _, _ => by simp at h

theorem not_less_of : ∀ (j : Nat) (a b : List UInt8), j < a.length → j < b.length → (∀ k, k < j → bt a k = bt b k) → bt b j < bt a j → Op.bytesLess a b = false
  | 0, x :: a, y :: b, _, _, _, h => by
    simp [bt] at h
    have h1 : ¬ x < y := by rw [UInt8.lt_iff_toNat_lt]; omega
    have h2 : ¬ x = y := fun e => by subst e; omega
    simp [Op.bytesLess, h1, h2]
  | j + 1, x :: a, y :: b, h1, h2, h3, h => by
    have e0 := h3 0 (by omega)
    simp [bt] at e0
    have e1 := UInt8.toNat_inj.1 e0
    subst e1
    have := not_less_of j a b (by simpa using h1) (by simpa using h2) (fun k hk => by simpa [bt] using h3 (k + 1) (by omega)) (by simpa [bt] using h)
    simp [Op.bytesLess, this]
  | _, [], _, h, _, _, _ => by simp at h
  | _, _ :: _, [], _, h, _, _ => by simp at h

theorem less_prefix : ∀ (a b : List UInt8), a.length < b.length → (∀ k, k < a.length → bt a k = bt b k) → Op.bytesLess a b = true
  | [], y :: b, _, _ => by simp [Op.bytesLess]
  | x :: a, y :: b, h, h3 => by
    have e0 := h3 0 (by simp)
    simp [bt] at e0
    have := less_prefix a b (by simpa using h) (fun k hk => by simpa [bt] using h3 (k + 1) (by simpa using hk))
    simp [Op.bytesLess, UInt8.toNat_inj.1 e0, this]
  | _, [], h, _ => by simp at h

/-- A falling word: as the document's test asks. -/
def Word (l : List UInt8) : Prop := 0 < l.length ∧ ∀ i, 0 < i → i < l.length → Op.bytesLess (l.drop i) l = false ∧ l.drop i ≠ l

theorem word_of {l : List UInt8} {n : Nat} (h0 : 0 < n) (hn : n ≤ l.length) (h : Lyn (bt l) n) : Word (l.take n) := by
  have hl : (l.take n).length = n := by simp; omega
  refine ⟨by omega, fun i hi0 hi1 => ?_⟩
  rw [hl] at hi1
  obtain ⟨j, a, b, c⟩ := h i hi0 hi1
  have hd : ((l.take n).drop i).length = n - i := by rw [List.length_drop, hl]
  refine ⟨not_less_of j _ _ (by omega) (by omega) (fun k hk => ?_) ?_, fun e => ?_⟩
  · rw [bt_drop, bt_take _ _ _ (by omega), bt_take _ _ _ (by omega)]
    exact b k hk
  · rw [bt_drop, bt_take _ _ _ (by omega), bt_take _ _ _ (by omega)]
    exact c
  · have := congrArg List.length e
    rw [hd, hl] at this
    omega

/-- At most: as the document compares texts. -/
def leB (a b : List UInt8) : Bool := Op.bytesLess a b || a == b

theorem leB_refl (a : List UInt8) : leB a a = true := by simp [leB]

/-- The words are falling ones, and none stands behind the one ahead of it. -/
def Good (ws : List (List UInt8)) : Prop := (∀ x ∈ ws, Word x) ∧ ∀ i a b, ws[i]? = some a → ws[i + 1]? = some b → leB b a = true

theorem Good.nil : Good [] := ⟨by simp, by simp⟩

theorem Good.snoc {ws : List (List UInt8)} {x : List UInt8} (h : Good ws) (hx : Word x) (hl : ∀ y, ws.getLast? = some y → leB x y = true) : Good (ws ++ [x]) := by
  refine ⟨?_, ?_⟩
  · intro y hy
    rcases List.mem_append.1 hy with h1 | h1
    · exact h.1 y h1
    · simp at h1
      subst h1
      exact hx
  · intro i a b ha hb
    by_cases hi : i + 1 < ws.length
    · rw [List.getElem?_append_left (by omega)] at ha
      rw [List.getElem?_append_left hi] at hb
      exact h.2 i a b ha hb
    · rw [List.getElem?_append_right (by omega)] at hb
      have hz : i + 1 - ws.length = 0 := by
        have : i + 1 - ws.length < [x].length := (List.getElem?_eq_some_iff.1 hb).1
        simp at this
        omega
      rw [hz] at hb
      simp at hb
      subst hb
      rw [List.getElem?_append_left (by omega)] at ha
      apply hl
      rw [List.getLast?_eq_getElem?, show ws.length - 1 = i by omega]
      exact ha

/-- What the outer loop keeps. -/
structure Cut (l : List UInt8) (st : Nat) (ws : List (List UInt8)) : Prop where
  le : st ≤ l.length
  flat : ws.flatten = l.take st
  good : Good ws
  rest : ∀ y, ws.getLast? = some y → ∀ k, leB ((l.drop st).take k) y = true

theorem Cut.start (l : List UInt8) : Cut l 0 [] := ⟨Nat.zero_le _, by simp, Good.nil, by simp⟩

/-- What the inner loop keeps: q times the word. -/
structure Run (l : List UInt8) (st L e q : Nat) (ws : List (List UInt8)) : Prop where
  inv : Inv (bt (l.drop st)) L e
  le : st + e ≤ l.length
  fin : st + e = l.length ∨ bt (l.drop st) e < bt (l.drop st) (e - L)
  few : q * L ≤ e
  flat : ws.flatten = l.take (st + q * L)
  good : Good ws
  last : q = 0 → ∀ y, ws.getLast? = some y → ∀ k, leB ((l.drop st).take k) y = true
  lastq : 0 < q → ws.getLast? = some ((l.drop st).take L)

theorem Run.start {l : List UInt8} {st L e : Nat} {ws : List (List UInt8)} (h : Cut l st ws) (hi : Inv (bt (l.drop st)) L e) (hle : st + e ≤ l.length)
    (hf : st + e = l.length ∨ bt (l.drop st) e < bt (l.drop st) (e - L)) : Run l st L e 0 ws :=
  ⟨hi, hle, hf, by simp, by simpa using h.flat, h.good, fun _ => h.rest, fun h => by omega⟩

theorem Run.word {l : List UInt8} {st L e q : Nat} {ws : List (List UInt8)} (h : Run l st L e q ws) (hq : (q + 1) * L ≤ e) :
    (l.drop (st + q * L)).take L = (l.drop st).take L := by
  have hle := h.le
  have e1 : (q + 1) * L = q * L + L := Nat.succ_mul _ _
  apply ext_bt
  · simp; omega
  · intro k hk
    have hk' : k < L := by simp at hk; omega
    rw [bt_take _ _ _ hk', bt_take _ _ _ hk', bt_drop, show st + q * L + k = st + (q * L + k) by omega, ← bt_drop]
    exact h.inv.times q k (by omega)

theorem Run.next {l : List UInt8} {st L e q : Nat} {ws : List (List UInt8)} (h : Run l st L e q ws) (hq : (q + 1) * L ≤ e) :
    Run l st L e (q + 1) (ws ++ [(l.drop (st + q * L)).take L]) := by
  have hle := h.le
  have e1 : (q + 1) * L = q * L + L := Nat.succ_mul _ _
  have hw := h.word hq
  have hp := h.inv.pos
  refine ⟨h.inv, h.le, h.fin, hq, ?_, ?_, fun h => by omega, fun _ => ?_⟩
  · rw [List.flatten_append, h.flat]
    simp only [List.flatten_cons, List.flatten_nil, List.append_nil]
    rw [e1, ← Nat.add_assoc]
    exact (List.take_add (l := l) (i := st + q * L) (j := L)).symm
  · rw [hw]
    refine h.good.snoc (word_of hp (by simp; have := h.inv.le; omega) h.inv.lyn) fun y hy => ?_
    by_cases hq0 : q = 0
    · exact h.last hq0 y hy L
    · have := h.lastq (by omega)
      rw [this] at hy
      simp at hy
      subst hy
      exact leB_refl _
  · rw [hw]
    simp

theorem Run.stop {l : List UInt8} {st L e q : Nat} {ws : List (List UInt8)} (h : Run l st L e q ws) (hq : q = e / L) : Cut l (st + q * L) ws := by
  have hle := h.le
  have hp := h.inv.pos
  have hL := h.inv.le
  have hmod : e % L < L := Nat.mod_lt _ (by omega)
  have hdiv : q * L + e % L = e := by
    rw [hq, Nat.mul_comm]
    exact Nat.div_add_mod e L
  have hq0 : 0 < q := by
    rw [hq]
    exact Nat.div_pos hL (by omega)
  refine ⟨by omega, h.flat, h.good, fun y hy k => ?_⟩
  rw [h.lastq hq0] at hy
  simp only [Option.some.injEq] at hy
  subst hy
  -- r = e % L letters of the rest are the word's; behind them a smaller one, or the end
  generalize hr : e % L = r at hmod hdiv
  have hlw : ((l.drop st).take L).length = L := by simp; omega
  have hrl : (l.drop (st + q * L)).length = l.length - (st + q * L) := by simp
  have agree : ∀ j, j < r → bt (l.drop (st + q * L)) j = bt (l.drop st) j := fun j hj => by
    rw [bt_drop, show st + q * L + j = st + (q * L + j) by omega, ← bt_drop]
    exact h.inv.times q j (by omega)
  have hkl : ((l.drop (st + q * L)).take k).length = min k (l.length - (st + q * L)) := by rw [List.length_take, hrl]
  unfold leB
  rw [Bool.or_eq_true]
  by_cases hk : ((l.drop (st + q * L)).take k).length ≤ r
  · left
    refine less_prefix _ _ (by omega) fun j hj => ?_
    rw [bt_take _ _ _ (by omega), bt_take _ _ _ (by omega)]
    exact agree j (by omega)
  · left
    have hrk : r < k := by omega
    have hlen : r < l.length - (st + q * L) := by omega
    rcases h.fin with hf | hf
    · omega
    · refine less_of r _ _ (by omega) (by omega) (fun j hj => ?_) ?_
      · rw [bt_take _ _ _ (by omega), bt_take _ _ _ (by omega)]
        exact agree j hj
      · rw [bt_take _ _ _ hrk, bt_take _ _ _ hmod, bt_drop, show st + q * L + r = st + e by omega, ← bt_drop]
        have h2 : bt (l.drop st) (e - L) = bt (l.drop st) r := by
          have hq1 : e - L = (q - 1) * L + r := by
            have : q * L = (q - 1) * L + L := by
              rw [← Nat.succ_mul]
              congr 1
              omega
            omega
          rw [hq1]
          exact h.inv.times (q - 1) r (by omega)
        omega

theorem Cut.done {l : List UInt8} {ws : List (List UInt8)} {st : Nat} (h : Cut l st ws) (hs : l.length ≤ st) : Good ws ∧ ws.flatten = l :=
  ⟨h.good, by rw [h.flat, List.take_of_length_le hs]⟩
end Go.Proofs.Ytkiindkoiomieaa.Duv

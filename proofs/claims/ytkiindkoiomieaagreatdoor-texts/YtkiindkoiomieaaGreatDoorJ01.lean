import GoSem.Op.String
section
/-
  Plain mathematics of P3: words that fall, and Duval's cutting. Nothing of the program.
-/
namespace Go.Proofs.YtkiindkoiomieaaGreatDoor.Duv

/-- The first n letters of t: each end but the whole parts from it by a greater letter. -/
def Lyn (t : Nat → Nat) (n : Nat) : Prop := ∀ i, 0 < i → i < n → ∃ j, i + j < n ∧ (∀ k, k < j → t (i + k) = t k) ∧ t j < t (i + j)

/-- What Duval's loop keeps: the first L letters are a falling word, and the first e letters are it, over and over. -/
structure Inv (t : Nat → Nat) (L e : Nat) : Prop where
  pos : 1 ≤ L
  le : L ≤ e
  lyn : Lyn t L
  per : ∀ j, L ≤ j → j < e → t j = t (j - L)

theorem Inv.start (t : Nat → Nat) : Inv t 1 1 := ⟨Nat.le_refl _, Nat.le_refl _, fun i h0 h1 => by omega, fun j h0 h1 => by omega⟩

theorem Inv.same {t : Nat → Nat} {L e : Nat} (h : Inv t L e) (hs : t (e - L) = t e) : Inv t L (e + 1) :=
  ⟨h.pos, Nat.le_succ_of_le h.le, h.lyn, fun j h0 h1 => by
    by_cases hj : j < e
    · exact h.per j h0 hj
    · have : j = e := by omega
      subst this
      exact hs.symm⟩

theorem Inv.more {t : Nat → Nat} {L e : Nat} (h : Inv t L e) (hs : t (e - L) < t e) : Inv t (e + 1) (e + 1) := by
  have hp := h.pos
  have hle := h.le
  refine ⟨by omega, Nat.le_refl _, ?_, fun j h0 h1 => by omega⟩
  intro i
  induction i using Nat.strongRecOn with
  | ind i ih =>
    intro h0 h1
    by_cases hiL : i < L
    · obtain ⟨j, a, b, c⟩ := h.lyn i h0 hiL
      exact ⟨j, by omega, b, c⟩
    · by_cases hE : i = L
      · subst hE
        refine ⟨e - i, by omega, fun k hk => ?_, ?_⟩
        · have := h.per (i + k) (by omega) (by omega)
          rw [this]
          congr 1
          omega
        · rw [show i + (e - i) = e by omega]
          exact hs
      · obtain ⟨j, a, b, c⟩ := ih (i - L) (by omega) (by omega) (by omega)
        by_cases hj : i + j < e
        · refine ⟨j, by omega, fun k hk => ?_, ?_⟩
          · rw [h.per (i + k) (by omega) (by omega), ← b k hk]
            congr 1
            omega
          · rw [h.per (i + j) (by omega) hj]
            rw [show i + j - L = i - L + j by omega]
            exact c
        · refine ⟨e - i, by omega, fun k hk => ?_, ?_⟩
          · rw [h.per (i + k) (by omega) (by omega), ← b k (by omega)]
            congr 1
            omega
          · rw [show i + (e - i) = e by omega]
            have hle2 : t (e - i) ≤ t (e - L) := by
              by_cases hjj : e - i < j
              · have := b (e - i) hjj
                rw [show i - L + (e - i) = e - L by omega] at this
                omega
              · have hj2 : e - i = j := by omega
                rw [← hj2, show i - L + (e - i) = e - L by omega] at c
                omega
            omega

theorem Inv.times {t : Nat → Nat} {L e : Nat} (h : Inv t L e) : ∀ q k, q * L + k < e → t (q * L + k) = t k := by
  intro q
  induction q with
  | zero => intro k _; simp
  | succ q ih =>
    intro k hk
    have hp := h.pos
    have e1 : (q + 1) * L + k = q * L + k + L := by rw [Nat.succ_mul]; omega
    rw [e1, h.per _ (by omega) (by omega), Nat.add_sub_cancel]
    exact ih k (by omega)

/-! ### Lists of bytes -/
/-- A letter, as a number. -/
def bt (l : List UInt8) (k : Nat) : Nat := (l[k]?.getD 0).toNat

theorem bt_drop (l : List UInt8) (m k : Nat) : bt (l.drop m) k = bt l (m + k) := by simp [bt]
theorem bt_take (l : List UInt8) (m k : Nat) (h : k < m) : bt (l.take m) k = bt l k := by simp [bt, h]

theorem ext_bt {a b : List UInt8} (hl : a.length = b.length) (h : ∀ k, k < a.length → bt a k = bt b k) : a = b := by
  apply List.ext_getElem hl
  intro k h1 h2
  have := h k h1
  simp only [bt, List.getElem?_eq_getElem h1, List.getElem?_eq_getElem h2, Option.getD_some] at this
  exact UInt8.toNat_inj.1 this

theorem less_of : ∀ (j : Nat) (a b : List UInt8), j < a.length → j < b.length → (∀ k, k < j → bt a k = bt b k) → bt a j < bt b j → Op.bytesLess a b = true
  | 0, x :: a, y :: b, _, _, _, h => by
    simp [bt] at h
    simp [Op.bytesLess, UInt8.lt_iff_toNat_lt, h]
  | j + 1, x :: a, y :: b, h1, h2, h3, h => by
    have e0 := h3 0 (by omega)
    simp [bt] at e0
    have := less_of j a b (by simpa using h1) (by simpa using h2) (fun k hk => by simpa [bt] using h3 (k + 1) (by omega)) (by simpa [bt] using h)
    simp [Op.bytesLess, UInt8.toNat_inj.1 e0, this]
  | _, [], _, h, _, _, _ => by simp at h
  | _, _ :: _, [], _, h, _, _ => by simp at h

theorem not_less_of : ∀ (j : Nat) (a b : List UInt8), j < a.length → j < b.length → (∀ k, k < j → bt a k = bt b k) → bt b j < bt a j → Op.bytesLess a b = false
  | 0, x :: a, y :: b, _, _, _, h => by
    simp [bt] at h
    have h1 : ¬ x < y := by rw [UInt8.lt_iff_toNat_lt]; omega
    have h2 : ¬ x = y := fun e => by subst e; omega
    simp [Op.bytesLess, h1, h2]
  | j + 1, x :: a, y :: b, h1, h2, h3, h => by
    have e0 := h3 0 (by omega)
    simp [bt] at e0
    have e1 := UInt8.toNat_inj.1 e0
    subst e1
    have := not_less_of j a b (by simpa using h1) (by simpa using h2) (fun k hk => by simpa [bt] using h3 (k + 1) (by omega)) (by simpa [bt] using h)
    simp [Op.bytesLess, this]
  | _, [], _, h, _, _, _ => by simp at h
  | _, _ :: _, [], _, h, _, _ => by simp at h

theorem less_prefix : ∀ (a b : List UInt8), a.length < b.length → (∀ k, k < a.length → bt a k = bt b k) → Op.bytesLess a b = true
  | [], y :: b, _, _ => by simp [Op.bytesLess]
  | x :: a, y :: b, h, h3 => by
    have e0 := h3 0 (by simp)
    simp [bt] at e0
    have := less_prefix a b (by simpa using h) (fun k hk => by simpa [bt] using h3 (k + 1) (by simpa using hk))
    simp [Op.bytesLess, UInt8.toNat_inj.1 e0, this]
  | _, [], h, _ => by simp at h

/-- A falling word: as the document's test asks. -/
def Word (l : List UInt8) : Prop := 0 < l.length ∧ ∀ i, 0 < i → i < l.length → Op.bytesLess (l.drop i) l = false ∧ l.drop i ≠ l

theorem word_of {l : List UInt8} {n : Nat} (h0 : 0 < n) (hn : n ≤ l.length) (h : Lyn (bt l) n) : Word (l.take n) := by
  have hl : (l.take n).length = n := by simp; omega
  refine ⟨by omega, fun i hi0 hi1 => ?_⟩
  rw [hl] at hi1
  obtain ⟨j, a, b, c⟩ := h i hi0 hi1
  have hd : ((l.take n).drop i).length = n - i := by rw [List.length_drop, hl]
  refine ⟨not_less_of j _ _ (by omega) (by omega) (fun k hk => ?_) ?_, fun e => ?_⟩
  · rw [bt_drop, bt_take _ _ _ (by omega), bt_take _ _ _ (by omega)]
    exact b k hk
  · rw [bt_drop, bt_take _ _ _ (by omega), bt_take _ _ _ (by omega)]
    exact c
  · have := congrArg List.length e
    rw [hd, hl] at this
    omega

/-- At most: as the document compares texts. -/
def leB (a b : List UInt8) : Bool := Op.bytesLess a b || a == b

theorem leB_refl (a : List UInt8) : leB a a = true := by simp [leB]

/-- The words are falling ones, and none stands behind the one ahead of it. -/
def Good (ws : List (List UInt8)) : Prop := (∀ x ∈ ws, Word x) ∧ ∀ i a b, ws[i]? = some a → ws[i + 1]? = some b → leB b a = true

theorem Good.nil : Good [] := ⟨by simp, by simp⟩

theorem Good.snoc {ws : List (List UInt8)} {x : List UInt8} (h : Good ws) (hx : Word x) (hl : ∀ y, ws.getLast? = some y → leB x y = true) : Good (ws ++ [x]) := by
  refine ⟨?_, ?_⟩
  · intro y hy
    rcases List.mem_append.1 hy with h1 | h1
    · exact h.1 y h1
    · simp at h1
      subst h1
      exact hx
  · intro i a b ha hb
    by_cases hi : i + 1 < ws.length
    · rw [List.getElem?_append_left (by omega)] at ha
      rw [List.getElem?_append_left hi] at hb
      exact h.2 i a b ha hb
    · rw [List.getElem?_append_right (by omega)] at hb
      have hz : i + 1 - ws.length = 0 := by
        have : i + 1 - ws.length < [x].length := (List.getElem?_eq_some_iff.1 hb).1
        simp at this
        omega
      rw [hz] at hb
      simp at hb
      subst hb
      rw [List.getElem?_append_left (by omega)] at ha
      apply hl
      rw [List.getLast?_eq_getElem?, show ws.length - 1 = i by omega]
      exact ha

/-- What the outer loop keeps. -/
structure Cut (l : List UInt8) (st : Nat) (ws : List (List UInt8)) : Prop where
  le : st ≤ l.length
  flat : ws.flatten = l.take st
  good : Good ws
  rest : ∀ y, ws.getLast? = some y → ∀ k, leB ((l.drop st).take k) y = true

theorem Cut.start (l : List UInt8) : Cut l 0 [] := ⟨Nat.zero_le _, by simp, Good.nil, by simp⟩

/-- What the inner loop keeps: q times the word. -/
structure Run (l : List UInt8) (st L e q : Nat) (ws : List (List UInt8)) : Prop where
  inv : Inv (bt (l.drop st)) L e
  le : st + e ≤ l.length
  fin : st + e = l.length ∨ bt (l.drop st) e < bt (l.drop st) (e - L)
  few : q * L ≤ e
  flat : ws.flatten = l.take (st + q * L)
  good : Good ws
  last : q = 0 → ∀ y, ws.getLast? = some y → ∀ k, leB ((l.drop st).take k) y = true
  lastq : 0 < q → ws.getLast? = some ((l.drop st).take L)

theorem Run.start {l : List UInt8} {st L e : Nat} {ws : List (List UInt8)} (h : Cut l st ws) (hi : Inv (bt (l.drop st)) L e) (hle : st + e ≤ l.length)
    (hf : st + e = l.length ∨ bt (l.drop st) e < bt (l.drop st) (e - L)) : Run l st L e 0 ws :=
  ⟨hi, hle, hf, by simp, by simpa using h.flat, h.good, fun _ => h.rest, fun h => by omega⟩

theorem Run.word {l : List UInt8} {st L e q : Nat} {ws : List (List UInt8)} (h : Run l st L e q ws) (hq : (q + 1) * L ≤ e) :
    (l.drop (st + q * L)).take L = (l.drop st).take L := by
  have hle := h.le
  have e1 : (q + 1) * L = q * L + L := Nat.succ_mul _ _
  apply ext_bt
  · simp; omega
  · intro k hk
    have hk' : k < L := by simp at hk; omega
    rw [bt_take _ _ _ hk', bt_take _ _ _ hk', bt_drop, show st + q * L + k = st + (q * L + k) by omega, ← bt_drop]
    exact h.inv.times q k (by omega)

theorem Run.next {l : List UInt8} {st L e q : Nat} {ws : List (List UInt8)} (h : Run l st L e q ws) (hq : (q + 1) * L ≤ e) :
    Run l st L e (q + 1) (ws ++ [(l.drop (st + q * L)).take L]) := by
  have hle := h.le
  have e1 : (q + 1) * L = q * L + L := Nat.succ_mul _ _
  have hw := h.word hq
  have hp := h.inv.pos
  refine ⟨h.inv, h.le, h.fin, hq, ?_, ?_, fun h => by omega, fun _ => ?_⟩
  · rw [List.flatten_append, h.flat]
    simp only [List.flatten_cons, List.flatten_nil, List.append_nil]
    rw [e1, ← Nat.add_assoc]
    exact (List.take_add (l := l) (i := st + q * L) (j := L)).symm
  · rw [hw]
    refine h.good.snoc (word_of hp (by simp; have := h.inv.le; omega) h.inv.lyn) fun y hy => ?_
    by_cases hq0 : q = 0
    · exact h.last hq0 y hy L
    · have := h.lastq (by omega)
      rw [this] at hy
      simp at hy
      subst hy
      exact leB_refl _
  · rw [hw]
    simp

theorem Run.stop {l : List UInt8} {st L e q : Nat} {ws : List (List UInt8)} (h : Run l st L e q ws) (hq : q = e / L) : Cut l (st + q * L) ws := by
  have hle := h.le
  have hp := h.inv.pos
  have hL := h.inv.le
  have hmod : e % L < L := Nat.mod_lt _ (by omega)
  have hdiv : q * L + e % L = e := by
    rw [hq, Nat.mul_comm]
    exact Nat.div_add_mod e L
  have hq0 : 0 < q := by
    rw [hq]
    exact Nat.div_pos hL (by omega)
  refine ⟨by omega, h.flat, h.good, fun y hy k => ?_⟩
  rw [h.lastq hq0] at hy
  simp only [Option.some.injEq] at hy
  subst hy
  -- r = e % L letters of the rest are the word's; behind them a smaller one, or the end
  generalize hr : e % L = r at hmod hdiv
  have hlw : ((l.drop st).take L).length = L := by simp; omega
  have hrl : (l.drop (st + q * L)).length = l.length - (st + q * L) := by simp
  have agree : ∀ j, j < r → bt (l.drop (st + q * L)) j = bt (l.drop st) j := fun j hj => by
    rw [bt_drop, show st + q * L + j = st + (q * L + j) by omega, ← bt_drop]
    exact h.inv.times q j (by omega)
  have hkl : ((l.drop (st + q * L)).take k).length = min k (l.length - (st + q * L)) := by rw [List.length_take, hrl]
  unfold leB
  rw [Bool.or_eq_true]
  by_cases hk : ((l.drop (st + q * L)).take k).length ≤ r
  · left
    refine less_prefix _ _ (by omega) fun j hj => ?_
    rw [bt_take _ _ _ (by omega), bt_take _ _ _ (by omega)]
    exact agree j (by omega)
  · left
    have hrk : r < k := by omega
    have hlen : r < l.length - (st + q * L) := by omega
    rcases h.fin with hf | hf
    · omega
    · refine less_of r _ _ (by omega) (by omega) (fun j hj => ?_) ?_
      · rw [bt_take _ _ _ (by omega), bt_take _ _ _ (by omega)]
        exact agree j hj
      · rw [bt_take _ _ _ hrk, bt_take _ _ _ hmod, bt_drop, show st + q * L + r = st + e by omega, ← bt_drop]
        have h2 : bt (l.drop st) (e - L) = bt (l.drop st) r := by
          have hq1 : e - L = (q - 1) * L + r := by
            have : q * L = (q - 1) * L + L := by
              rw [← Nat.succ_mul]
              congr 1
              omega
            omega
          rw [hq1]
          exact h.inv.times (q - 1) r (by omega)
        omega

theorem Cut.done {l : List UInt8} {ws : List (List UInt8)} {st : Nat} (h : Cut l st ws) (hs : l.length ≤ st) : Good ws ∧ ws.flatten = l :=
  ⟨h.good, by rw [h.flat, List.take_of_length_le hs]⟩
end Go.Proofs.YtkiindkoiomieaaGreatDoor.Duv
end

section
/-
  Plain mathematics of P4: texts read on and on, and their order. Nothing of the program.
-/
namespace Go.Proofs.YtkiindkoiomieaaGreatDoor.Tur
open Duv

/-- One reading comes ahead of another. -/
def Lt (f g : Nat → Nat) : Prop := ∃ k, (∀ j, j < k → f j = g j) ∧ f k < g k

theorem Lt.irrefl (f : Nat → Nat) : ¬ Lt f f := fun ⟨_, _, h⟩ => Nat.lt_irrefl _ h

theorem Lt.asymm {f g : Nat → Nat} (h : Lt f g) : ¬ Lt g f := by
  obtain ⟨k, a, b⟩ := h
  rintro ⟨k', a', b'⟩
  rcases Nat.lt_trichotomy k k' with h | h | h
  · have := a' k h; omega
  · subst h; omega
  · have := a k' h; omega

theorem Lt.trans {f g h : Nat → Nat} (h1 : Lt f g) (h2 : Lt g h) : Lt f h := by
  obtain ⟨k, a, b⟩ := h1
  obtain ⟨k', a', b'⟩ := h2
  rcases Nat.lt_trichotomy k k' with h | h | h
  · exact ⟨k, fun j hj => (a j hj).trans (a' j (by omega)), by have := a' k h; omega⟩
  · subst h; exact ⟨k, fun j hj => (a j hj).trans (a' j hj), by omega⟩
  · exact ⟨k', fun j hj => (a j (by omega)).trans (a' j hj), by have := a k' h; omega⟩

/-- Within N letters: all the same, or one comes ahead. -/
theorem parts (f g : Nat → Nat) : ∀ N, (∀ j, j < N → f j = g j) ∨ ∃ k, k < N ∧ (∀ j, j < k → f j = g j) ∧ (f k < g k ∨ g k < f k)
  | 0 => .inl (fun j h => by omega)
  | N + 1 => by
    rcases parts f g N with h | ⟨k, h1, h2, h3⟩
    · rcases Nat.lt_trichotomy (f N) (g N) with e | e | e
      · exact .inr ⟨N, by omega, h, .inl e⟩
      · refine .inl fun j hj => ?_
        by_cases hN : j = N
        · subst hN; exact e
        · exact h j (by omega)
      · exact .inr ⟨N, by omega, h, .inr e⟩
    · exact .inr ⟨k, by omega, h2, h3⟩

theorem Lt.total (f g : Nat → Nat) : Lt f g ∨ Lt g f ∨ f = g := by
  by_cases h : ∃ N, ¬ (∀ j, j < N → f j = g j)
  · obtain ⟨N, h⟩ := h
    rcases parts f g N with h' | ⟨k, _, h2, h3⟩
    · exact absurd h' h
    · rcases h3 with h3 | h3
      · exact .inl ⟨k, h2, h3⟩
      · exact .inr (.inl ⟨k, fun j hj => (h2 j hj).symm, h3⟩)
  · refine .inr (.inr (funext fun j => ?_))
    have := Classical.not_not.1 (fun h' => h ⟨j + 1, h'⟩)
    exact this j (by omega)

theorem Lt.le_trans {f g h : Nat → Nat} (h1 : ¬ Lt g f) (h2 : ¬ Lt h g) : ¬ Lt h f := by
  rcases Lt.total f g with a | a | a
  · rcases Lt.total g h with b | b | b
    · exact (a.trans b).asymm
    · exact absurd b h2
    · subst b; exact h1
  · exact absurd a h1
  · subst a; exact h2

/-- Goes round in p letters. -/
def Per (f : Nat → Nat) (p : Nat) : Prop := ∀ j, f (j + p) = f j

theorem Per.mul {f : Nat → Nat} {p : Nat} (h : Per f p) : ∀ k j, f (j + k * p) = f j
  | 0, j => by simp
  | k + 1, j => by rw [Nat.succ_mul, ← Nat.add_assoc, h, h.mul k j]

theorem Per.mod {f : Nat → Nat} {p : Nat} (h : Per f p) (j : Nat) : f (j % p) = f j := by
  have := h.mul (j / p) (j % p)
  rw [Nat.mul_comm, Nat.mod_add_div] at this
  exact this.symm

/-- Two that go round in p and in q letters are the same if they are in p + q letters. -/
theorem same_of {f g : Nat → Nat} {p q : Nat} (hp : 0 < p) (hq : 0 < q) (h1 : Per f p) (h2 : Per g q) (h : ∀ j, j < p + q → f j = g j) : f = g := by
  have h3 : Per f q := fun j => by
    have hm : j % p < p := Nat.mod_lt _ hp
    have e1 : f (j + q) = f (j % p + q) := by
      have := h1.mul (j / p) (j % p + q)
      rw [← this]
      congr 1
      have := Nat.mod_add_div j p
      rw [Nat.mul_comm] at this
      omega
    rw [e1, h _ (by omega), h2, ← h _ (by omega), h1.mod]
  funext j
  have hm : j % q < q := Nat.mod_lt _ hq
  rw [← h3.mod j, ← h2.mod j]
  exact h _ (by omega)

/-- The same, where both go round in p. -/
theorem same_one {f g : Nat → Nat} {p : Nat} (hp : 0 < p) (h1 : Per f p) (h2 : Per g p) (h : ∀ j, j < p → f j = g j) : f = g := by
  funext j
  have hm : j % p < p := Nat.mod_lt _ hp
  rw [← h1.mod j, ← h2.mod j]
  exact h _ hm

/-- What is read from a place of a word, on and on. -/
def rd (w : List UInt8) (i : Nat) (k : Nat) : Nat := bt w ((i + k) % w.length)
/-- The letter ahead of it. -/
def ah (w : List UInt8) (i : Nat) : UInt8 := w[(i + w.length - 1) % w.length]?.getD 0

theorem rd_per (w : List UInt8) (i : Nat) : Per (rd w i) w.length := fun j => by
  unfold rd
  rw [← Nat.add_assoc, Nat.add_mod_right]

theorem ah_rd {w : List UInt8} {i : Nat} (hw : 0 < w.length) (c : Nat) (hc : 0 < c) : (ah w i).toNat = rd w i (c * w.length - 1) := by
  unfold ah rd bt
  have h1 : w.length ≤ c * w.length := Nat.le_mul_of_pos_left _ hc
  have e : (i + (c * w.length - 1)) % w.length = (i + w.length - 1) % w.length := by
    have : i + (c * w.length - 1) = (i + w.length - 1) + (c - 1) * w.length := by
      have : c * w.length = (c - 1) * w.length + w.length := by
        rw [← Nat.succ_mul]
        congr 1
        omega
      omega
    rw [this, Nat.add_mul_mod_self_right]
  rw [e]

theorem ah_same {u v : List UInt8} {i j : Nat} (hu : 0 < u.length) (hv : 0 < v.length) (h : rd u i = rd v j) : ah u i = ah v j := by
  apply UInt8.toNat_inj.1
  rw [ah_rd hu v.length hv, ah_rd hv u.length hu, h, Nat.mul_comm]

/-- All places of all words. -/
def places (ws : List (List UInt8)) : List (List UInt8 × Nat) := ws.flatMap fun w => (List.range w.length).map fun i => (w, i)

theorem mem_places {ws : List (List UInt8)} {p : List UInt8 × Nat} (h : p ∈ places ws) : p.1 ∈ ws ∧ p.2 < p.1.length := by
  simp only [places, List.mem_flatMap, List.mem_map, List.mem_range] at h
  obtain ⟨w, hw, i, hi, rfl⟩ := h
  exact ⟨hw, hi⟩

/-- A place as it is read, and the letter ahead. -/
def row (p : List UInt8 × Nat) : (Nat → Nat) × UInt8 := (rd p.1 p.2, ah p.1 p.2)

/-- Sorted. -/
def Srt (l : List ((Nat → Nat) × UInt8)) : Prop := l.Pairwise fun a b => ¬ Lt b.1 a.1

/-- t is what these words are, when they are turned. -/
def Turned (ws : List (List UInt8)) (t : List UInt8) : Prop := ∃ l, l.Perm ((places ws).map row) ∧ Srt l ∧ l.map Prod.snd = t

theorem Turned.unique {ws : List (List UInt8)} {t t' : List UInt8} (h : Turned ws t) (h' : Turned ws t') : t = t' := by
  obtain ⟨l, p, s, rfl⟩ := h
  obtain ⟨l', p', s', rfl⟩ := h'
  congr 1
  refine List.Perm.eq_of_pairwise (le := fun (a b : (Nat → Nat) × UInt8) => ¬ Lt b.1 a.1) (fun a b ha hb h1 h2 => ?_) s s' (p.trans p'.symm)
  obtain ⟨x, hx, rfl⟩ := List.mem_map.1 (p.mem_iff.1 ha)
  obtain ⟨y, hy, rfl⟩ := List.mem_map.1 (p'.mem_iff.1 hb)
  have hx' := mem_places hx
  have hy' := mem_places hy
  rcases Lt.total (row x).1 (row y).1 with h | h | h
  · exact absurd h h2
  · exact absurd h h1
  · exact Prod.ext h (ah_same (by omega) (by omega) h)

theorem Turned.length {ws : List (List UInt8)} {t : List UInt8} (h : Turned ws t) : t.length = ws.flatten.length := by
  obtain ⟨l, p, s, rfl⟩ := h
  rw [List.length_map, p.length_eq, List.length_map]
  unfold places
  rw [List.length_flatMap, List.length_flatten]
  congr 1
  simp

/-! ### Texts are compared as in a dictionary -/
theorem less_split : ∀ (a b : List UInt8), leB a b = true ∨ (∃ j, j < a.length ∧ j < b.length ∧ (∀ k, k < j → bt a k = bt b k) ∧ bt b j < bt a j) ∨ (b.length < a.length ∧ ∀ k, k < b.length → bt a k = bt b k)
  | [], [] => .inl (leB_refl _)
  | [], _ :: _ => .inl (by simp [leB, Op.bytesLess])
  | _ :: _, [] => .inr (.inr ⟨by simp, fun k h => by simp at h⟩)
  | x :: a, y :: b => by
    rcases Nat.lt_trichotomy x.toNat y.toNat with h | h | h
    · exact .inl (by simp [leB, Op.bytesLess, UInt8.lt_iff_toNat_lt, h])
    · have e := UInt8.toNat_inj.1 h
      subst e
      rcases less_split a b with h | ⟨j, h1, h2, h3, h4⟩ | ⟨h1, h2⟩
      · refine .inl ?_
        simp only [leB, Op.bytesLess, Bool.or_eq_true, decide_eq_true_eq, Bool.and_eq_true, beq_iff_eq, List.cons.injEq, true_and] at h ⊢
        rcases h with h | h
        · exact .inl (.inr h)
        · exact .inr h
      · refine .inr (.inl ⟨j + 1, by simpa using h1, by simpa using h2, fun k hk => ?_, by simpa [bt] using h4⟩)
        cases k with
        | zero => simp [bt]
        | succ k => simpa [bt] using h3 k (by omega)
      · refine .inr (.inr ⟨by simpa using h1, fun k hk => ?_⟩)
        cases k with
        | zero => simp [bt]
        | succ k => simpa [bt] using h2 k (by simpa using hk)
    · exact .inr (.inl ⟨0, by simp, by simp, fun k h => by omega, by simpa [bt] using h⟩)

theorem less_trans : ∀ (a b c : List UInt8), Op.bytesLess a b = true → Op.bytesLess b c = true → Op.bytesLess a c = true
  | _, _, [], _, h => by cases ‹List UInt8› <;> simp [Op.bytesLess] at h
  | [], _, _ :: _, _, _ => by simp [Op.bytesLess]
  | _ :: _, [], _ :: _, h, _ => by simp [Op.bytesLess] at h
  | x :: a, y :: b, z :: c, h1, h2 => by
    simp only [Op.bytesLess, Bool.or_eq_true, decide_eq_true_eq, Bool.and_eq_true, beq_iff_eq, UInt8.lt_iff_toNat_lt] at h1 h2 ⊢
    rcases h1 with h1 | ⟨rfl, h1⟩
    · rcases h2 with h2 | ⟨rfl, h2⟩
      · exact .inl (by omega)
      · exact .inl h1
    · rcases h2 with h2 | ⟨rfl, h2⟩
      · exact .inl h2
      · exact .inr ⟨rfl, less_trans a b c h1 h2⟩

theorem le_less {a b c : List UInt8} (h1 : leB a b = true) (h2 : Op.bytesLess b c = true) : Op.bytesLess a c = true := by
  simp only [leB, Bool.or_eq_true, beq_iff_eq] at h1
  rcases h1 with h1 | rfl
  · exact less_trans _ _ _ h1 h2
  · exact h2

theorem less_le {a b c : List UInt8} (h1 : Op.bytesLess a b = true) (h2 : leB b c = true) : Op.bytesLess a c = true := by
  simp only [leB, Bool.or_eq_true, beq_iff_eq] at h2
  rcases h2 with h2 | rfl
  · exact less_trans _ _ _ h1 h2
  · exact h1

theorem leB_trans {a b c : List UInt8} (h1 : leB a b = true) (h2 : leB b c = true) : leB a c = true := by
  have h1' := h1
  simp only [leB, Bool.or_eq_true, beq_iff_eq] at h1'
  rcases h1' with h | rfl
  · simp [leB, less_le h h2]
  · exact h2

theorem le_prefix (a b : List UInt8) : leB a (a ++ b) = true := by
  cases b with
  | nil => simp [leB]
  | cons x b =>
    have := less_prefix a (a ++ x :: b) (by simp) (fun k hk => by simp [bt, List.getElem?_append_left hk])
    simp [leB, this]

/-- Each word but the first: its beginnings are none above the first word. -/
theorem rest_le : ∀ (w : List UInt8) (ws : List (List UInt8)), Good (w :: ws) → ∀ i, 0 < i → i ≤ ws.flatten.length → ∃ a x, ws.flatten.take i = a ++ x ∧ 0 < x.length ∧ leB x w = true
  | _, [], _, i, h0, h1 => by simp at h1; omega
  | w, v :: ws, hg, i, h0, h1 => by
    have hvw : leB v w = true := hg.2 0 w v rfl rfl
    have hg' : Good (v :: ws) := ⟨fun x hx => hg.1 x (List.mem_cons_of_mem _ hx), fun k a b ha hb => hg.2 (k + 1) a b ha hb⟩
    by_cases hi : i ≤ v.length
    · refine ⟨[], v.take i, ?_, by simp; omega, ?_⟩
      · rw [List.flatten_cons, List.take_append_of_le_length hi, List.nil_append]
      · refine leB_trans ?_ hvw
        have := le_prefix (v.take i) (v.drop i)
        rwa [List.take_append_drop] at this
    · obtain ⟨a, x, e, hx, hl⟩ := rest_le v ws hg' (i - v.length) (by omega) (by rw [List.flatten_cons, List.length_append] at h1; omega)
      refine ⟨v ++ a, x, ?_, hx, leB_trans hl hvw⟩
      rw [List.flatten_cons, List.take_append, List.take_of_length_le (by omega), e, List.append_assoc]

/-- The first word is the longest beginning that is a falling word. -/
theorem longest {w : List UInt8} {ws : List (List UInt8)} (hg : Good (w :: ws)) {i : Nat} (h0 : w.length < i) (h1 : i ≤ (w :: ws).flatten.length) : ¬ Word ((w :: ws).flatten.take i) := by
  intro hW
  rw [List.flatten_cons] at h1 hW
  rw [List.length_append] at h1
  obtain ⟨a, x, e, hx, hl⟩ := rest_le w ws hg (i - w.length) (by omega) (by omega)
  rw [List.take_append, List.take_of_length_le (by omega), e] at hW
  have hlen : (w ++ (a ++ x)).length = w.length + a.length + x.length := by simp; omega
  have hd : (w ++ (a ++ x)).drop (w.length + a.length) = x := by
    rw [← List.append_assoc, List.drop_append_of_le_length (by simp), List.drop_of_length_le (by simp), List.nil_append]
  have hw0 : 0 < w.length := (hg.1 w (by simp)).1
  have h2 := (hW.2 (w.length + a.length) (by omega) (by omega)).1
  rw [hd] at h2
  have h3 : Op.bytesLess w (w ++ (a ++ x)) = true := less_prefix _ _ (by simp; omega) (fun k hk => by simp [bt, List.getElem?_append_left hk])
  rw [le_less hl h3] at h2
  cases h2

theorem good_tail {w : List UInt8} {ws : List (List UInt8)} (hg : Good (w :: ws)) : Good ws :=
  ⟨fun x hx => hg.1 x (List.mem_cons_of_mem _ hx), fun k a b ha hb => hg.2 (k + 1) a b ha hb⟩

/-- There is just one such list. -/
theorem good_unique : ∀ (ws us : List (List UInt8)), Good ws → Good us → ws.flatten = us.flatten → ws = us
  | [], [], _, _, _ => rfl
  | [], u :: us, _, hu, e => by
    have h0 := (hu.1 u (by simp)).1
    have h1 := congrArg List.length e
    rw [List.flatten_cons, List.length_append] at h1
    simp only [List.flatten_nil, List.length_nil] at h1
    omega
  | w :: ws, [], hw, _, e => by
    have h0 := (hw.1 w (by simp)).1
    have h1 := congrArg List.length e
    rw [List.flatten_cons, List.length_append] at h1
    simp only [List.flatten_nil, List.length_nil] at h1
    omega
  | w :: ws, u :: us, hw, hu, e => by
    have tw : (w :: ws).flatten.take w.length = w := by simp
    have tu : (u :: us).flatten.take u.length = u := by simp
    have hl : w.length = u.length := by
      rcases Nat.lt_trichotomy w.length u.length with h | h | h
      · have := longest hw h (by rw [e]; simp)
        rw [e, tu] at this
        exact absurd (hu.1 u (by simp)) this
      · exact h
      · have := longest hu h (by rw [← e]; simp)
        rw [← e, tw] at this
        exact absurd (hw.1 w (by simp)) this
    have e1 : w = u := by rw [← tw, ← tu, e, hl]
    subst e1
    simp at e
    rw [good_unique ws us (good_tail hw) (good_tail hu) e]
end Go.Proofs.YtkiindkoiomieaaGreatDoor.Tur
end

section
/-
  Plain mathematics of P4: places that are laid into a sorted list one by one. Nothing of the program.
-/
namespace Go.Proofs.YtkiindkoiomieaaGreatDoor.Tur
open Duv

/-- One place is read ahead of another. -/
def LtP (p q : List UInt8 × Nat) : Prop := Lt (rd p.1 p.2) (rd q.1 q.2)

def Sp (o : List (List UInt8 × Nat)) : Prop := o.Pairwise fun a b => ¬ LtP b a

/-- r laid into the first j of o; d: it is in. -/
def Ins (r : List UInt8 × Nat) (o : List (List UInt8 × Nat)) (j : Nat) (d : Bool) (n : List (List UInt8 × Nat)) : Prop :=
  (d = false ∧ n = o.take j ∧ ∀ x ∈ o.take j, ¬ LtP r x) ∨
  (d = true ∧ ∃ a y b, o.take j = a ++ y :: b ∧ n = a ++ r :: y :: b ∧ (∀ x ∈ a, ¬ LtP r x) ∧ LtP r y)

theorem Ins.start (r : List UInt8 × Nat) (o : List (List UInt8 × Nat)) : Ins r o 0 false [] := .inl ⟨rfl, rfl, by simp⟩

theorem take_next {α : Type} {o : List α} {j : Nat} {x : α} (h : o[j]? = some x) : o.take (j + 1) = o.take j ++ [x] := by
  rw [List.take_add_one, h]
  rfl

theorem Ins.here {r : List UInt8 × Nat} {o n : List (List UInt8 × Nat)} {j : Nat} {x : List UInt8 × Nat} (h : Ins r o j false n) (hx : o[j]? = some x) (hl : LtP r x) : Ins r o (j + 1) true (n ++ [r] ++ [x]) := by
  rcases h with ⟨_, h1, h2⟩ | ⟨h1, _⟩
  · subst h1
    exact .inr ⟨rfl, o.take j, x, [], take_next hx, by simp, h2, hl⟩
  · cases h1

theorem Ins.past {r : List UInt8 × Nat} {o n : List (List UInt8 × Nat)} {j : Nat} {x : List UInt8 × Nat} (h : Ins r o j false n) (hx : o[j]? = some x) (hl : ¬ LtP r x) : Ins r o (j + 1) false (n ++ [x]) := by
  rcases h with ⟨_, h1, h2⟩ | ⟨h1, _⟩
  · subst h1
    refine .inl ⟨rfl, (take_next hx).symm, fun y hy => ?_⟩
    rw [take_next hx] at hy
    rcases List.mem_append.1 hy with hy | hy
    · exact h2 y hy
    · simp at hy
      subst hy
      exact hl
  · cases h1

theorem Ins.rest {r : List UInt8 × Nat} {o n : List (List UInt8 × Nat)} {j : Nat} {x : List UInt8 × Nat} (h : Ins r o j true n) (hx : o[j]? = some x) : Ins r o (j + 1) true (n ++ [x]) := by
  rcases h with ⟨h1, _⟩ | ⟨_, a, y, b, h1, h2, h3, h4⟩
  · cases h1
  · exact .inr ⟨rfl, a, y, b ++ [x], by rw [take_next hx, h1]; simp, by rw [h2]; simp, h3, h4⟩

theorem Ins.length {r : List UInt8 × Nat} {o n : List (List UInt8 × Nat)} {j : Nat} {d : Bool} (h : Ins r o j d n) (hj : j ≤ o.length) : n.length = j + d.toNat := by
  rcases h with ⟨rfl, rfl, _⟩ | ⟨rfl, a, y, b, h1, rfl, _⟩
  · simp; omega
  · have := congrArg List.length h1
    simp at this
    simp
    omega

/-- What has come of it. -/
theorem Ins.done {r : List UInt8 × Nat} {o n : List (List UInt8 × Nat)} {d : Bool} (h : Ins r o o.length d n) (hs : Sp o) :
    (n ++ (if d = true then [] else [r])).Perm (o ++ [r]) ∧ Sp (n ++ (if d = true then [] else [r])) := by
  rcases h with ⟨rfl, h1, h2⟩ | ⟨rfl, a, y, b, h1, rfl, h3, h4⟩
  · rw [List.take_length] at h1 h2
    subst h1
    refine ⟨by simp, ?_⟩
    simp only [Bool.false_eq_true, if_false, Sp, List.pairwise_append, List.pairwise_cons, List.not_mem_nil, false_imp_iff, implies_true, List.Pairwise.nil, and_self, true_and]
    refine ⟨hs, fun x hx z hz => ?_⟩
    simp at hz
    subst hz
    exact h2 x hx
  · rw [List.take_length] at h1
    subst h1
    simp only [if_true, List.append_nil]
    constructor
    · rw [List.append_assoc]
      refine List.Perm.append_left a ?_
      have : (y :: b ++ [r]).Perm ([r] ++ (y :: b)) := List.perm_append_comm
      exact this.symm
    · unfold Sp at hs ⊢
      rw [List.pairwise_append] at hs ⊢
      obtain ⟨s1, s2, s3⟩ := hs
      refine ⟨s1, ?_, fun x hx z hz => ?_⟩
      · rw [List.pairwise_cons]
        refine ⟨fun z hz hlt => ?_, s2⟩
        rcases List.mem_cons.1 hz with rfl | hz'
        · exact Lt.asymm h4 hlt
        · exact (List.pairwise_cons.1 s2).1 z hz' (Lt.trans hlt h4)
      · rcases List.mem_cons.1 hz with rfl | hz'
        · exact h3 x hx
        · exact s3 x hx z hz'

theorem turned_of {ws : List (List UInt8)} {o : List (List UInt8 × Nat)} (hp : o.Perm (places ws)) (hs : Sp o) : Turned ws (o.map fun p => ah p.1 p.2) := by
  refine ⟨o.map row, hp.map _, ?_, ?_⟩
  · unfold Srt
    rw [List.pairwise_map]
    exact hs
  · rw [List.map_map]
    rfl

theorem places_next {ws : List (List UInt8)} {i : Nat} {w : List UInt8} (h : ws[i]? = some w) : places (ws.take (i + 1)) = places (ws.take i) ++ (List.range w.length).map fun k => (w, k) := by
  rw [take_next h]
  simp [places]
end Go.Proofs.YtkiindkoiomieaaGreatDoor.Tur
end

section
/-
  Plain mathematics of P4: rows that are sorted stably, their cycles, and the words that these are. Nothing of the program.
-/
namespace Go.Proofs.YtkiindkoiomieaaGreatDoor.Tur
open Duv

/-! ### Words by what is read of them -/
/-- Ahead of all that is read from its other places: a falling word. -/
theorem lyn_of_rot {w : List UInt8} {m : Nat} (hm : w.length = m) (h : ∀ i, 0 < i → i < m → Lt (rd w 0) (rd w i)) : Lyn (bt w) m := by
  have rot : ∀ i, 0 < i → i < m → ∃ k, k < m ∧ (∀ j, j < k → bt w j = bt w ((i + j) % m)) ∧ bt w k < bt w ((i + k) % m) := by
    intro i h0 h1
    obtain ⟨k, a, b⟩ := h i h0 h1
    have hk : k < m := by
      rcases Nat.lt_or_ge k m with hk | hk
      · exact hk
      · have := same_one (by omega) (hm ▸ rd_per w 0) (hm ▸ rd_per w i) (fun j hj => a j (by omega))
        rw [this] at b
        exact absurd b (Nat.lt_irrefl _)
    refine ⟨k, hk, fun j hj => ?_, ?_⟩
    · have := a j hj
      unfold rd at this
      rwa [hm, Nat.zero_add, Nat.mod_eq_of_lt (by omega)] at this
    · unfold rd at b
      rwa [hm, Nat.zero_add, Nat.mod_eq_of_lt hk] at b
  intro i h0 h1
  obtain ⟨k, hk, a, b⟩ := rot i h0 h1
  by_cases hik : i + k < m
  · refine ⟨k, hik, fun j hj => ?_, ?_⟩
    · have := a j hj
      rw [Nat.mod_eq_of_lt (by omega)] at this
      exact this.symm
    · rwa [Nat.mod_eq_of_lt hik] at b
  · exfalso
    obtain ⟨k2, hk2, a2, b2⟩ := rot (m - i) (by omega) (by omega)
    have modlt : ∀ x, m ≤ x → x < 2 * m → x % m = x - m := fun x h1 h2 => by
      rw [Nat.mod_eq_sub_mod h1, Nat.mod_eq_of_lt (by omega)]
    -- e: where the other comparison parts
    obtain ⟨e, he⟩ : ∃ e, k = (m - i) + e := ⟨k - (m - i), by omega⟩
    have hb : bt w (m - i + e) < bt w e := by
      rw [modlt _ (by omega) (by omega), show i + k - m = e by omega, he] at b
      exact b
    have ha : ∀ j, j < e → bt w (m - i + j) = bt w j := fun j hj => by
      have := a (m - i + j) (by omega)
      rw [modlt _ (by omega) (by omega), show i + (m - i + j) - m = j by omega] at this
      exact this
    have ei : e < i := by omega
    rcases Nat.lt_trichotomy e k2 with h | h | h
    · have := a2 e h
      rw [Nat.mod_eq_of_lt (by omega)] at this
      omega
    · subst h
      rw [Nat.mod_eq_of_lt (by omega)] at b2
      omega
    · have := ha k2 h
      rw [Nat.mod_eq_of_lt (by omega)] at b2
      omega

/-- Falling words stand as they do when they are read on and on. -/
theorem le_of_rd {u v : List UInt8} (hu : Lyn (bt u) u.length) (hv : 0 < v.length) (h : ¬ Lt (rd v 0) (rd u 0)) : leB u v = true := by
  rcases less_split u v with h1 | ⟨j, h1, h2, h3, h4⟩ | ⟨h1, h2⟩
  · exact h1
  · refine absurd ⟨j, fun k hk => ?_, ?_⟩ h
    · unfold rd
      rw [Nat.zero_add, Nat.mod_eq_of_lt (by omega), Nat.mod_eq_of_lt (by omega)]
      exact (h3 k hk).symm
    · unfold rd
      rw [Nat.zero_add, Nat.mod_eq_of_lt h2, Nat.mod_eq_of_lt h1]
      exact h4
  · obtain ⟨j, a, b, c⟩ := hu v.length hv h1
    have per := rd_per v 0
    have ag : ∀ x, x < v.length + j → rd v 0 x = bt u x := by
      intro x
      induction x using Nat.strongRecOn with
      | ind x ih =>
        intro hx
        by_cases hxv : x < v.length
        · unfold rd
          rw [Nat.zero_add, Nat.mod_eq_of_lt hxv]
          exact (h2 x hxv).symm
        · have e := per (x - v.length)
          rw [show x - v.length + v.length = x by omega] at e
          rw [e, ih (x - v.length) (by omega) (by omega), ← b (x - v.length) (by omega)]
          congr 1
          omega
    refine absurd ⟨v.length + j, fun x hx => ?_, ?_⟩ h
    · rw [ag x hx]
      unfold rd
      rw [Nat.zero_add, Nat.mod_eq_of_lt (by omega)]
    · have e := per j
      rw [Nat.add_comm v.length j, e, ag j (by omega)]
      unfold rd
      rw [Nat.zero_add, Nat.mod_eq_of_lt (by omega), Nat.add_comm]
      exact c

/-! ### Cycles -/
/-- Going ahead j times. -/
def it (p : Nat → Nat) : Nat → Nat → Nat
  | 0, r => r
  | j + 1, r => p (it p j r)

/-- p: where the rows go when they are sorted by their letter, and then as they stand. -/
structure Ahead (t : List UInt8) (p : Nat → Nat) : Prop where
  lt : ∀ r, r < t.length → p r < t.length
  ord : ∀ r s, r < t.length → s < t.length → (p r < p s ↔ bt t r < bt t s ∨ (bt t r = bt t s ∧ r < s))

theorem Ahead.inj {t : List UInt8} {p : Nat → Nat} (h : Ahead t p) {r s : Nat} (hr : r < t.length) (hs : s < t.length) (e : p r = p s) : r = s := by
  have h1 := h.ord r s hr hs
  have h2 := h.ord s r hs hr
  rw [e] at h1 h2
  have : ¬ p s < p s := Nat.lt_irrefl _
  have h3 : ¬ _ := fun x => this (h1.2 x)
  have h4 : ¬ _ := fun x => this (h2.2 x)
  rcases Nat.lt_trichotomy (bt t r) (bt t s) with a | a | a
  · exact absurd (.inl a) h3
  · rcases Nat.lt_trichotomy r s with b | b | b
    · exact absurd (.inr ⟨a, b⟩) h3
    · exact b
    · exact absurd (.inr ⟨a.symm, b⟩) h4
  · exact absurd (.inl a) h4

theorem Ahead.it_lt {t : List UInt8} {p : Nat → Nat} (h : Ahead t p) {r : Nat} (hr : r < t.length) : ∀ j, it p j r < t.length
  | 0 => hr
  | j + 1 => h.lt _ (h.it_lt hr j)

/-- A cycle: its least row, and how many there are. -/
structure Cyc (t : List UInt8) (p : Nat → Nat) (c : Nat × Nat) : Prop where
  pos : 0 < c.2
  lt : c.1 < t.length
  round : it p c.2 c.1 = c.1
  least : ∀ j, 0 < j → j < c.2 → c.1 < it p j c.1

/-- Its word: the letters, going ahead from its end. -/
def word (t : List UInt8) (p : Nat → Nat) (c : Nat × Nat) : List UInt8 := (List.range c.2).map fun i => t[it p (c.2 - 1 - i) c.1]?.getD 0

/-- The row of a place of the word. -/
def rho (p : Nat → Nat) (c : Nat × Nat) (i : Nat) : Nat := it p (c.2 - i) c.1

theorem word_length (t : List UInt8) (p : Nat → Nat) (c : Nat × Nat) : (word t p c).length = c.2 := by simp [word]

theorem word_bt (t : List UInt8) (p : Nat → Nat) (c : Nat × Nat) {i : Nat} (h : i < c.2) : bt (word t p c) i = bt t (it p (c.2 - 1 - i) c.1) := by
  simp [bt, word, h]

theorem rho_lt {t : List UInt8} {p : Nat → Nat} (hA : Ahead t p) {c : Nat × Nat} (hc : Cyc t p c) (i : Nat) : rho p c i < t.length := hA.it_lt hc.lt _

theorem rho_step {t : List UInt8} {p : Nat → Nat} {c : Nat × Nat} (hc : Cyc t p c) {i : Nat} (h : i < c.2) : rho p c i = p (rho p c ((i + 1) % c.2)) := by
  by_cases h1 : i + 1 < c.2
  · rw [Nat.mod_eq_of_lt h1]
    unfold rho
    rw [show c.2 - i = (c.2 - (i + 1)) + 1 by omega]
    rfl
  · have : i + 1 = c.2 := by omega
    rw [this, Nat.mod_self]
    unfold rho
    rw [Nat.sub_zero, hc.round, show c.2 - i = 1 by omega]
    rfl

theorem rho_letter {t : List UInt8} {p : Nat → Nat} {c : Nat × Nat} (hc : Cyc t p c) {i : Nat} (h : i < c.2) : bt (word t p c) i = bt t (rho p c ((i + 1) % c.2)) := by
  rw [word_bt _ _ _ h]
  by_cases h1 : i + 1 < c.2
  · rw [Nat.mod_eq_of_lt h1]
    unfold rho
    congr 2
    omega
  · have : i + 1 = c.2 := by omega
    rw [this, Nat.mod_self]
    unfold rho
    rw [Nat.sub_zero, hc.round, show c.2 - 1 - i = 0 by omega]
    rfl

theorem rho_ah {t : List UInt8} {p : Nat → Nat} {c : Nat × Nat} (hc : Cyc t p c) {i : Nat} (h : i < c.2) : ah (word t p c) i = t[rho p c i]?.getD 0 := by
  have hp := hc.pos
  apply UInt8.toNat_inj.1
  show bt (word t p c) ((i + (word t p c).length - 1) % (word t p c).length) = bt t (rho p c i)
  rw [word_length]
  have hm := Nat.mod_lt (i + c.2 - 1) hp
  rw [rho_letter hc hm]
  congr 2
  by_cases h0 : i = 0
  · subst h0
    rw [Nat.zero_add, Nat.mod_eq_of_lt (show c.2 - 1 < c.2 by omega), show c.2 - 1 + 1 = c.2 by omega, Nat.mod_self]
  · rw [show i + c.2 - 1 = i - 1 + c.2 by omega, Nat.add_mod_right, Nat.mod_eq_of_lt (show i - 1 < c.2 by omega), show i - 1 + 1 = i by omega, Nat.mod_eq_of_lt h]

theorem rd_word {t : List UInt8} {p : Nat → Nat} {c : Nat × Nat} (hc : Cyc t p c) (i k : Nat) : rd (word t p c) i k = bt t (rho p c ((i + (k + 1)) % c.2)) := by
  unfold rd
  rw [word_length, rho_letter hc (Nat.mod_lt _ hc.pos), Nat.mod_add_mod]
  rfl

/-- Rows keep their order as long as the same is read. -/
theorem keep {t : List UInt8} {p : Nat → Nat} (hA : Ahead t p) {c d : Nat × Nat} (hc : Cyc t p c) (hd : Cyc t p d) {i j : Nat} (hi : i < c.2) (hj : j < d.2) (h : rho p c i < rho p d j) :
    ∀ k, (∀ x, x < k → rd (word t p c) i x = rd (word t p d) j x) → rho p c ((i + k) % c.2) < rho p d ((j + k) % d.2)
  | 0, _ => by
    rw [Nat.add_zero, Nat.add_zero, Nat.mod_eq_of_lt hi, Nat.mod_eq_of_lt hj]
    exact h
  | k + 1, hx => by
    have ih := keep hA hc hd hi hj h k (fun x hk => hx x (by omega))
    rw [rho_step hc (Nat.mod_lt _ hc.pos), rho_step hd (Nat.mod_lt _ hd.pos), Nat.mod_add_mod, Nat.mod_add_mod] at ih
    have e := hx k (by omega)
    rw [rd_word hc, rd_word hd] at e
    have := (hA.ord _ _ (rho_lt hA hc _) (rho_lt hA hd _)).1 ih
    rw [show i + k + 1 = i + (k + 1) by omega, show j + k + 1 = j + (k + 1) by omega] at this
    omega

/-- The rows are sorted by what is read. -/
theorem sorted {t : List UInt8} {p : Nat → Nat} (hA : Ahead t p) {c d : Nat × Nat} (hc : Cyc t p c) (hd : Cyc t p d) {i j : Nat} (hi : i < c.2) (hj : j < d.2) (h : rho p c i < rho p d j) :
    ¬ Lt (rd (word t p d) j) (rd (word t p c) i) := by
  rintro ⟨k, a, b⟩
  have ih := keep hA hc hd hi hj h k (fun x hk => (a x hk).symm)
  rw [rho_step hc (Nat.mod_lt _ hc.pos), rho_step hd (Nat.mod_lt _ hd.pos), Nat.mod_add_mod, Nat.mod_add_mod] at ih
  rw [rd_word hc, rd_word hd] at b
  have := (hA.ord _ _ (rho_lt hA hc _) (rho_lt hA hd _)).1 ih
  rw [show i + k + 1 = i + (k + 1) by omega, show j + k + 1 = j + (k + 1) by omega] at this
  omega

theorem strict {t : List UInt8} {p : Nat → Nat} (hA : Ahead t p) {c : Nat × Nat} (hc : Cyc t p c) {i : Nat} (h0 : 0 < i) (hi : i < c.2) : Lt (rd (word t p c) 0) (rd (word t p c) i) := by
  have hr : rho p c 0 < rho p c i := by
    unfold rho
    rw [Nat.sub_zero, hc.round]
    exact hc.least _ (by omega) (by omega)
  rcases Lt.total (rd (word t p c) 0) (rd (word t p c) i) with h | h | h
  · exact h
  · exact absurd h (sorted hA hc hc hc.pos hi hr)
  · exfalso
    have up : ∀ s, s ≤ rho p c ((s * i) % c.2) := by
      intro s
      induction s with
      | zero => exact Nat.zero_le _
      | succ s ih =>
        have := keep hA hc hc hc.pos hi hr (s * i) (fun x _ => by rw [h])
        rw [Nat.zero_add] at this
        rw [Nat.succ_mul, Nat.add_comm (s * i) i]
        omega
    have h1 := up t.length
    have h2 := rho_lt hA hc ((t.length * i) % c.2)
    omega

theorem word_lyn {t : List UInt8} {p : Nat → Nat} (hA : Ahead t p) {c : Nat × Nat} (hc : Cyc t p c) : Lyn (bt (word t p c)) c.2 :=
  lyn_of_rot (word_length t p c) fun _ h0 h1 => strict hA hc h0 h1

theorem word_word {t : List UInt8} {p : Nat → Nat} (hA : Ahead t p) {c : Nat × Nat} (hc : Cyc t p c) : Word (word t p c) := by
  have := word_of (l := word t p c) (n := c.2) hc.pos (by rw [word_length]; exact Nat.le_refl _) (word_lyn hA hc)
  rwa [List.take_of_length_le (by rw [word_length]; exact Nat.le_refl _)] at this

theorem word_le {t : List UInt8} {p : Nat → Nat} (hA : Ahead t p) {c d : Nat × Nat} (hc : Cyc t p c) (hd : Cyc t p d) (h : c.1 < d.1) : leB (word t p c) (word t p d) = true := by
  refine le_of_rd ?_ (by rw [word_length]; exact hd.pos) (sorted hA hc hd hc.pos hd.pos ?_)
  · rw [word_length]
    exact word_lyn hA hc
  · unfold rho
    rw [Nat.sub_zero, Nat.sub_zero, hc.round, hd.round]
    exact h

/-! ### All cycles -/
/-- The rows of a cycle. -/
def rows (p : Nat → Nat) (c : Nat × Nat) : List Nat := (List.range c.2).map fun j => it p j c.1

theorem perm_lift {α β : Type} (f : α → β) {l l' : List β} (h : l.Perm l') : ∀ P : List α, l' = P.map f → ∃ P' : List α, P'.Perm P ∧ l = P'.map f := by
  induction h with
  | nil => intro P h; cases P with
    | nil => exact ⟨[], .refl _, rfl⟩
    | cons a b => simp at h
  | cons x h ih =>
    intro P e
    cases P with
    | nil => simp at e
    | cons a P =>
      simp only [List.map_cons, List.cons.injEq] at e
      obtain ⟨P', h1, h2⟩ := ih P e.2
      exact ⟨a :: P', h1.cons a, by rw [List.map_cons, ← h2, e.1]⟩
  | swap x y l =>
    intro P e
    match P, e with
    | a :: b :: P, e =>
      simp only [List.map_cons, List.cons.injEq] at e
      exact ⟨b :: a :: P, .swap _ _ _, by rw [List.map_cons, List.map_cons, e.1, e.2.1, e.2.2]⟩
  | trans h1 h2 ih1 ih2 =>
    intro P e
    obtain ⟨P2, a, b⟩ := ih2 P e
    obtain ⟨P1, c, d⟩ := ih1 P2 b
    exact ⟨P1, c.trans a, d⟩

theorem rho_rows {t : List UInt8} {p : Nat → Nat} {c : Nat × Nat} (hc : Cyc t p c) : ((List.range c.2).map (rho p c)).Perm (rows p c) := by
  obtain ⟨f, m⟩ := c
  obtain ⟨hp, hl, hr, hle⟩ := hc
  simp only at hp hl hr hle
  cases m with
  | zero => omega
  | succ m =>
    unfold rows
    simp only
    rw [List.range_succ_eq_map, List.map_cons, List.map_cons, List.map_map, List.map_map]
    have e0 : rho p (f, m + 1) 0 = it p 0 f := hr
    rw [e0]
    refine List.Perm.cons _ ?_
    have e1 : (List.range m).map (rho p (f, m + 1) ∘ Nat.succ) = ((List.range m).map ((fun j => it p j f) ∘ Nat.succ)).reverse := by
      apply List.ext_getElem
      · simp
      · intro k h1 h2
        simp only [List.length_map, List.length_range] at h1
        simp only [List.getElem_map, List.getElem_range, List.getElem_reverse, List.length_map, List.length_range, Function.comp_apply]
        unfold rho
        congr 1
        show m + 1 - (k + 1) = m - 1 - k + 1
        omega
    rw [e1]
    exact List.reverse_perm _

/-- The cycles are all rows, the later ones ahead. -/
structure All (t : List UInt8) (p : Nat → Nat) (cs : List (Nat × Nat)) : Prop where
  cyc : ∀ c ∈ cs, Cyc t p c
  down : cs.Pairwise fun c d => d.1 < c.1
  perm : (cs.flatMap (rows p)).Perm (List.range t.length)

theorem All.good {t : List UInt8} {p : Nat → Nat} (hA : Ahead t p) {cs : List (Nat × Nat)} (h : All t p cs) : Good (cs.map (word t p)) := by
  refine ⟨fun x hx => ?_, fun i a b ha hb => ?_⟩
  · obtain ⟨c, hc, rfl⟩ := List.mem_map.1 hx
    exact word_word hA (h.cyc c hc)
  · rw [List.getElem?_map] at ha hb
    cases hc : cs[i]? with
    | none => rw [hc] at ha; cases ha
    | some c =>
      cases hd : cs[i + 1]? with
      | none => rw [hd] at hb; cases hb
      | some d =>
        rw [hc] at ha
        rw [hd] at hb
        simp only [Option.map_some, Option.some.injEq] at ha hb
        subst ha
        subst hb
        obtain ⟨h1, e1⟩ := List.getElem?_eq_some_iff.1 hc
        obtain ⟨h2, e2⟩ := List.getElem?_eq_some_iff.1 hd
        have := List.pairwise_iff_getElem.1 h.down i (i + 1) h1 h2 (by omega)
        rw [e1, e2] at this
        exact word_le hA (h.cyc d (List.mem_of_getElem? hd)) (h.cyc c (List.mem_of_getElem? hc)) this

theorem All.turned {t : List UInt8} {p : Nat → Nat} (hA : Ahead t p) {cs : List (Nat × Nat)} (h : All t p cs) : Turned (cs.map (word t p)) t := by
  let P : List ((Nat × Nat) × Nat) := cs.flatMap fun c => (List.range c.2).map fun i => (c, i)
  have hP : ∀ q ∈ P, Cyc t p q.1 ∧ q.2 < q.1.2 := by
    intro q hq
    simp only [P, List.mem_flatMap, List.mem_map, List.mem_range] at hq
    obtain ⟨c, hc, i, hi, rfl⟩ := hq
    exact ⟨h.cyc c hc, hi⟩
  have e1 : (places (cs.map (word t p))).map row = P.map fun q => row (word t p q.1, q.2) := by
    simp only [places, P, List.flatMap_map, List.map_flatMap, List.map_map, word_length]
    rfl
  have e2 : (P.map fun q => rho p q.1 q.2).Perm (List.range t.length) := by
    refine List.Perm.trans ?_ h.perm
    simp only [P, List.map_flatMap, List.map_map]
    have hc := h.cyc
    clear_value P
    clear h hP e1
    induction cs with
    | nil => exact .refl _
    | cons c cs ih =>
      rw [List.flatMap_cons, List.flatMap_cons]
      exact (rho_rows (hc c (by simp))).append (ih (fun d hd => hc d (List.mem_cons_of_mem _ hd)))
  obtain ⟨P', h1, h2⟩ := perm_lift (fun q : (Nat × Nat) × Nat => rho p q.1 q.2) e2.symm P rfl
  have hP' : ∀ q ∈ P', Cyc t p q.1 ∧ q.2 < q.1.2 := fun q hq => hP q (h1.mem_iff.1 hq)
  refine ⟨P'.map fun q => row (word t p q.1, q.2), e1 ▸ h1.map _, ?_, ?_⟩
  · unfold Srt
    rw [List.pairwise_map]
    have hlt : (P'.map fun q => rho p q.1 q.2).Pairwise (· < ·) := h2 ▸ List.pairwise_lt_range
    rw [List.pairwise_map] at hlt
    refine List.Pairwise.imp_of_mem (fun {a b} ha hb hab => ?_) hlt
    exact sorted hA (hP' a ha).1 (hP' b hb).1 (hP' a ha).2 (hP' b hb).2 hab
  · rw [List.map_map]
    have e3 : (P'.map (Prod.snd ∘ fun q => row (word t p q.1, q.2))) = (P'.map fun q => rho p q.1 q.2).map fun r => t[r]?.getD 0 := by
      rw [List.map_map]
      exact List.map_congr_left fun q hq => rho_ah (hP' q hq).1 (hP' q hq).2
    rw [e3, ← h2]
    apply List.ext_getElem
    · simp
    · intro k h1 h2
      simp at h1 h2
      simp [h2]
end Go.Proofs.YtkiindkoiomieaaGreatDoor.Tur
end


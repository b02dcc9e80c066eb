/-
  Plain mathematics of P4: texts read on and on, and their order. Nothing of the program.
-/
import Derived.Test.YtkiindkoiomieaaDuval
namespace Go.Proofs.Ytkiindkoiomieaa.Tur
open Duv

/-- One reading comes ahead of another. -/
def Lt (f g : Nat → Nat) : Prop := ∃ k, (∀ j, j < k → f j = g j) ∧ f k < g k

theorem Lt.irrefl (f : Nat → Nat) : ¬ Lt f f := fun ⟨_, _, h⟩ => Nat.lt_irrefl _ h

theorem Lt.asymm {f g : Nat → Nat} (h : Lt f g) : ¬ Lt g f := by
  obtain ⟨k, a, b⟩ := h
  rintro ⟨k', a', b'⟩
  rcases Nat.lt_trichotomy k k' with h | h | h
  · have := a' k h; omega
  · subst h; omega
  · have := a k' h; omega

theorem Lt.trans {f g h : Nat → Nat} (h1 : Lt f g) (h2 : Lt g h) : Lt f h := by
  obtain ⟨k, a, b⟩ := h1
  obtain ⟨k', a', b'⟩ := h2
  rcases Nat.lt_trichotomy k k' with h | h | h
  · exact ⟨k, fun j hj => (a j hj).trans (a' j (by omega)), by have := a' k h; omega⟩
  · subst h; exact ⟨k, fun j hj => (a j hj).trans (a' j hj), by omega⟩
  · exact ⟨k', fun j hj => (a j (by omega)).trans (a' j hj), by have := a k' h; omega⟩

/-- Within N letters: all the same, or one comes ahead. -/
theorem parts (f g : Nat → Nat) : ∀ N, (∀ j, j < N → f j = g j) ∨ ∃ k, k < N ∧ (∀ j, j < k → f j = g j) ∧ (f k < g k ∨ g k < f k)
  | 0 => .inl (fun j h => by omega)
  | N + 1 => by
    rcases parts f g N with h | ⟨k, h1, h2, h3⟩
    · rcases Nat.lt_trichotomy (f N) (g N) with e | e | e
      · exact .inr ⟨N, by omega, h, .inl e⟩
      · refine .inl fun j hj => ?_
        by_cases hN : j = N
        · subst hN; exact e
        · exact h j (by omega)
      · exact .inr ⟨N, by omega, h, .inr e⟩
    · exact .inr ⟨k, by omega, h2, h3⟩

theorem Lt.total (f g : Nat → Nat) : Lt f g ∨ Lt g f ∨ f = g := by
  by_cases h : ∃ N, ¬ (∀ j, j < N → f j = g j)
  · obtain ⟨N, h⟩ := h
    rcases parts f g N with h' | ⟨k, _, h2, h3⟩
    · exact absurd h' h
    · rcases h3 with h3 | h3
      · exact .inl ⟨k, h2, h3⟩
      · exact .inr (.inl ⟨k, fun j hj => (h2 j hj).symm, h3⟩)
  · refine .inr (.inr (funext fun j => ?_))
    have := Classical.not_not.1 (fun h' => h ⟨j + 1, h'⟩)
    exact this j (by omega)

theorem Lt.le_trans {f g h : Nat → Nat} (h1 : ¬ Lt g f) (h2 : ¬ Lt h g) : ¬ Lt h f := by
  rcases Lt.total f g with a | a | a
  · rcases Lt.total g h with b | b | b
    · exact (a.trans b).asymm
    · exact absurd b h2
    · subst b; exact h1
  · exact absurd a h1
  · subst a; exact h2

/-- Goes round in p letters. -/
def Per (f : Nat → Nat) (p : Nat) : Prop := ∀ j, f (j + p) = f j

theorem Per.mul {f : Nat → Nat} {p : Nat} (h : Per f p) : ∀ k j, f (j + k * p) = f j
  | 0, j => by simp
  | k + 1, j => by rw [Nat.succ_mul, ← Nat.add_assoc, h, h.mul k j]

theorem Per.mod {f : Nat → Nat} {p : Nat} (h : Per f p) (j : Nat) : f (j % p) = f j := by
  have := h.mul (j / p) (j % p)
  rw [Nat.mul_comm, Nat.mod_add_div] at this
  exact this.symm

/-- Two that go round in p and in q letters are the same if they are in p + q letters. -/
theorem same_of {f g : Nat → Nat} {p q : Nat} (hp : 0 < p) (hq : 0 < q) (h1 : Per f p) (h2 : Per g q) (h : ∀ j, j < p + q → f j = g j) : f = g := by
  have h3 : Per f q := fun j => by
    have hm : j % p < p := Nat.mod_lt _ hp
    have e1 : f (j + q) = f (j % p + q) := by
      have := h1.mul (j / p) (j % p + q)
      rw [← this]
      congr 1
      have := Nat.mod_add_div j p
      rw [Nat.mul_comm] at this
      omega
    rw [e1, h _ (by omega), h2, ← h _ (by omega), h1.mod]
  funext j
  have hm : j % q < q := Nat.mod_lt _ hq
  rw [← h3.mod j, ← h2.mod j]
  exact h _ (by omega)

/-- The same, where both go round in p. -/
theorem same_one {f g : Nat → Nat} {p : Nat} (hp : 0 < p) (h1 : Per f p) (h2 : Per g p) (h : ∀ j, j < p → f j = g j) : f = g := by
  funext j
  have hm : j % p < p := Nat.mod_lt _ hp
  rw [← h1.mod j, ← h2.mod j]
  exact h _ hm

/-- What is read from a place of a word, on and on. -/
def rd (w : List UInt8) (i : Nat) (k : Nat) : Nat := bt w ((i + k) % w.length)
/-- The letter ahead of it. -/
def ah (w : List UInt8) (i : Nat) : UInt8 := w[(i + w.length - 1) % w.length]?.getD 0

theorem rd_per (w : List UInt8) (i : Nat) : Per (rd w i) w.length := fun j => by
  unfold rd
  rw [← Nat.add_assoc, Nat.add_mod_right]

theorem ah_rd {w : List UInt8} {i : Nat} (hw : 0 < w.length) (c : Nat) (hc : 0 < c) : (ah w i).toNat = rd w i (c * w.length - 1) := by
  unfold ah rd bt
  have h1 : w.length ≤ c * w.length := Nat.le_mul_of_pos_left _ hc
  have e : (i + (c * w.length - 1)) % w.length = (i + w.length - 1) % w.length := by
    have : i + (c * w.length - 1) = (i + w.length - 1) + (c - 1) * w.length := by
      have : c * w.length = (c - 1) * w.length + w.length := by
        rw [← Nat.succ_mul]
        congr 1
        omega
      omega
    rw [this, Nat.add_mul_mod_self_right]
  rw [e]

theorem ah_same {u v : List UInt8} {i j : Nat} (hu : 0 < u.length) (hv : 0 < v.length) (h : rd u i = rd v j) : ah u i = ah v j := by
  apply UInt8.toNat_inj.1
  rw [ah_rd hu v.length hv, ah_rd hv u.length hu, h, Nat.mul_comm]

/-- All places of all words. -/
def places (ws : List (List UInt8)) : List (List UInt8 × Nat) := ws.flatMap fun w => (List.range w.length).map fun i => (w, i)

theorem mem_places {ws : List (List UInt8)} {p : List UInt8 × Nat} (h : p ∈ places ws) : p.1 ∈ ws ∧ p.2 < p.1.length := by
  simp only [places, List.mem_flatMap, List.mem_map, List.mem_range] at h
  obtain ⟨w, hw, i, hi, rfl⟩ := h
  exact ⟨hw, hi⟩

/-- A place as it is read, and the letter ahead. -/
def row (p : List UInt8 × Nat) : (Nat → Nat) × UInt8 := (rd p.1 p.2, ah p.1 p.2)

/-- Sorted. -/
def Srt (l : List ((Nat → Nat) × UInt8)) : Prop := l.Pairwise fun a b => ¬ Lt b.1 a.1

/-- t is what these words are, when they are turned. -/
def Turned (ws : List (List UInt8)) (t : List UInt8) : Prop := ∃ l, l.Perm ((places ws).map row) ∧ Srt l ∧ l.map Prod.snd = t

theorem Turned.unique {ws : List (List UInt8)} {t t' : List UInt8} (h : Turned ws t) (h' : Turned ws t') : t = t' := by
  obtain ⟨l, p, s, rfl⟩ := h
  obtain ⟨l', p', s', rfl⟩ := h'
  congr 1
  refine List.Perm.eq_of_pairwise (le := fun (a b : (Nat → Nat) × UInt8) => ¬ Lt b.1 a.1) (fun a b ha hb h1 h2 => ?_) s s' (p.trans p'.symm)
  obtain ⟨x, hx, rfl⟩ := List.mem_map.1 (p.mem_iff.1 ha)
  obtain ⟨y, hy, rfl⟩ := List.mem_map.1 (p'.mem_iff.1 hb)
  have hx' := mem_places hx
  have hy' := mem_places hy
  rcases Lt.total (row x).1 (row y).1 with h | h | h
  · exact absurd h h2
  · exact absurd h h1
  · exact Prod.ext h (ah_same (by omega) (by omega) h)

theorem Turned.length {ws : List (List UInt8)} {t : List UInt8} (h : Turned ws t) : t.length = ws.flatten.length := by
  obtain ⟨l, p, s, rfl⟩ := h
  rw [List.length_map, p.length_eq, List.length_map]
  unfold places
  rw [List.length_flatMap, List.length_flatten]
  congr 1
  simp

/-! ### Texts are compared as in a dictionary -/
theorem less_split : ∀ (a b : List UInt8), leB a b = true ∨ (∃ j, j < a.length ∧ j < b.length ∧ (∀ k, k < j → bt a k = bt b k) ∧ bt b j < bt a j) ∨ (b.length < a.length ∧ ∀ k, k < b.length → bt a k = bt b k)
  | [], [] => .inl (leB_refl _)
  | [], _ :: _ => .inl (by simp [leB, Op.bytesLess])
  | _ :: _, [] => .inr (.inr ⟨by simp, fun k h => by simp at h⟩)
  | x :: a, y :: b => by
    rcases Nat.lt_trichotomy x.toNat y.toNat with h | h | h
    · exact .inl (by simp [leB, Op.bytesLess, UInt8.lt_iff_toNat_lt, h])
    · have e := UInt8.toNat_inj.1 h
      subst e
      rcases less_split a b with h | ⟨j, h1, h2, h3, h4⟩ | ⟨h1, h2⟩
      · refine .inl ?_
        simp only [leB, Op.bytesLess, Bool.or_eq_true, decide_eq_true_eq, Bool.and_eq_true, beq_iff_eq, List.cons.injEq, true_and] at h ⊢
        rcases h with h | h
        · exact .inl (.inr h)
        · exact .inr h
      · refine .inr (.inl ⟨j + 1, by simpa using h1, by simpa using h2, fun k hk => ?_, by simpa [bt] using h4⟩)
        cases k with
        | zero => simp [bt]
        | succ k => simpa [bt] using h3 k (by omega)
      · refine .inr (.inr ⟨by simpa using h1, fun k hk => ?_⟩)
        cases k with
        | zero => simp [bt]
        | succ k => simpa [bt] using h2 k (by simpa using hk)
    · exact .inr (.inl ⟨0, by simp, by simp, fun k h => by omega, by simpa [bt] using h⟩)

theorem less_trans : ∀ (a b c : List UInt8), Op.bytesLess a b = true → Op.bytesLess b c = true → Op.bytesLess a c = true
  | _, _, [], _, h => by cases ‹List UInt8› <;> simp [Op.bytesLess] at h
  | [], _, _ :: _, _, _ => by simp [Op.bytesLess]
  | _ :: _, [], _ :: _, h, _ => by simp [Op.bytesLess] at h
  | x :: a, y :: b, z :: c, h1, h2 => by
    simp only [Op.bytesLess, Bool.or_eq_true, decide_eq_true_eq, Bool.and_eq_true, beq_iff_eq, UInt8.lt_iff_toNat_lt] at h1 h2 ⊢
    rcases h1 with h1 | ⟨rfl, h1⟩
    · rcases h2 with h2 | ⟨rfl, h2⟩
      · exact .inl (by omega)
      · exact .inl h1
    · rcases h2 with h2 | ⟨rfl, h2⟩
      · exact .inl h2
      · exact .inr ⟨rfl, less_trans a b c h1 h2⟩

theorem le_less {a b c : List UInt8} (h1 : leB a b = true) (h2 : Op.bytesLess b c = true) : Op.bytesLess a c = true := by
  simp only [leB, Bool.or_eq_true, beq_iff_eq] at h1
  rcases h1 with h1 | rfl
  · exact less_trans _ _ _ h1 h2
  · exact h2

theorem less_le {a b c : List UInt8} (h1 : Op.bytesLess a b = true) (h2 : leB b c = true) : Op.bytesLess a c = true := by
  simp only [leB, Bool.or_eq_true, beq_iff_eq] at h2
  rcases h2 with h2 | rfl
  · exact less_trans _ _ _ h1 h2
  · exact h1

theorem leB_trans {a b c : List UInt8} (h1 : leB a b = true) (h2 : leB b c = true) : leB a c = true := by
  have h1' := h1
  simp only [leB, Bool.or_eq_true, beq_iff_eq] at h1'
  rcases h1' with h | rfl
  · simp [leB, less_le h h2]
  · exact h2

theorem le_prefix (a b : List UInt8) : leB a (a ++ b) = true := by
  cases b with
  | nil => simp [leB]
  | cons x b =>
    have := less_prefix a (a ++ x :: b) (by simp) (fun k hk => by simp [bt, List.getElem?_append_left hk])
    simp [leB, this]

/-- Each word but the first: its beginnings are none above the first word. -/
theorem rest_le : ∀ (w : List UInt8) (ws : List (List UInt8)), Good (w :: ws) → ∀ i, 0 < i → i ≤ ws.flatten.length → ∃ a x, ws.flatten.take i = a ++ x ∧ 0 < x.length ∧ leB x w = true
  | _, [], _, i, h0, h1 => by simp at h1; omega
  | w, v :: ws, hg, i, h0, h1 => by
    have hvw : leB v w = true := hg.2 0 w v rfl rfl
    have hg' : Good (v :: ws) := ⟨fun x hx => hg.1 x (List.mem_cons_of_mem _ hx), fun k a b ha hb => hg.2 (k + 1) a b ha hb⟩
    by_cases hi : i ≤ v.length
    · refine ⟨[], v.take i, ?_, by simp; omega, ?_⟩
      · rw [List.flatten_cons, List.take_append_of_le_length hi, List.nil_append]
      · refine leB_trans ?_ hvw
        have := le_prefix (v.take i) (v.drop i)
        rwa [List.take_append_drop] at this
    · obtain ⟨a, x, e, hx, hl⟩ := rest_le v ws hg' (i - v.length) (by omega) (by rw [List.flatten_cons, List.length_append] at h1; omega)
      refine ⟨v ++ a, x, ?_, hx, leB_trans hl hvw⟩
      rw [List.flatten_cons, List.take_append, List.take_of_length_le (by omega), e, List.append_assoc]

/-- The first word is the longest beginning that is a falling word. -/
theorem longest {w : List UInt8} {ws : List (List UInt8)} (hg : Good (w :: ws)) {i : Nat} (h0 : w.length < i) (h1 : i ≤ (w :: ws).flatten.length) : ¬ Word ((w :: ws).flatten.take i) := by
  intro hW
  rw [List.flatten_cons] at h1 hW
  rw [List.length_append] at h1
  obtain ⟨a, x, e, hx, hl⟩ := rest_le w ws hg (i - w.length) (by omega) (by omega)
  rw [List.take_append, List.take_of_length_le (by omega), e] at hW
  have hlen : (w ++ (a ++ x)).length = w.length + a.length + x.length := by simp; omega
  have hd : (w ++ (a ++ x)).drop (w.length + a.length) = x := by
    rw [← List.append_assoc, List.drop_append_of_le_length (by simp), List.drop_of_length_le (by simp), List.nil_append]
  have hw0 : 0 < w.length := (hg.1 w (by simp)).1
  have h2 := (hW.2 (w.length + a.length) (by omega) (by omega)).1
  rw [hd] at h2
  have h3 : Op.bytesLess w (w ++ (a ++ x)) = true := less_prefix _ _ (by simp; omega) (fun k hk => by simp [bt, List.getElem?_append_left hk])
  rw [le_less hl h3] at h2
  cases h2

theorem good_tail {w : List UInt8} {ws : List (List UInt8)} (hg : Good (w :: ws)) : Good ws :=
  ⟨fun x hx => hg.1 x (List.mem_cons_of_mem _ hx), fun k a b ha hb => hg.2 (k + 1) a b ha hb⟩

/-- There is just one such list. -/
theorem good_unique : ∀ (ws us : List (List UInt8)), Good ws → Good us → ws.flatten = us.flatten → ws = us
  | [], [], _, _, _ => rfl
  | [], u :: us, _, hu, e => by
    have h0 := (hu.1 u (by simp)).1
    have h1 := congrArg List.length e
    rw [List.flatten_cons, List.length_append] at h1
    simp only [List.flatten_nil, List.length_nil] at h1
    omega
  | w :: ws, [], hw, _, e => by
    have h0 := (hw.1 w (by simp)).1
    have h1 := congrArg List.length e
    rw [List.flatten_cons, List.length_append] at h1
    simp only [List.flatten_nil, List.length_nil] at h1
    omega
  | w :: ws, u :: us, hw, hu, e => by
    have tw : (w :: ws).flatten.take w.length = w := by simp
    have tu : (u :: us).flatten.take u.length = u := by simp
    have hl : w.length = u.length := by
      rcases Nat.lt_trichotomy w.length u.length with h | h | h
      · have := longest hw h (by rw [e]; simp)
        rw [e, tu] at this
        exact absurd (hu.1 u (by simp)) this
      · exact h
      · have := longest hu h (by rw [← e]; simp)
        rw [← e, tw] at this
        exact absurd (hw.1 w (by simp)) this
    have e1 : w = u := by rw [← tw, ← tu, e, hl]
    subst e1
    simp at e
    rw [good_unique ws us (good_tail hw) (good_tail hu) e]
end Go.Proofs.Ytkiindkoiomieaa.Tur

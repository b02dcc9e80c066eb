/-
  Plain mathematics of P4: rows that are sorted stably, their cycles, and the words that these are. Nothing of the program.
-/
import Derived.Test.YtkiindkoiomieaaTurnMath
namespace Go.Proofs.Ytkiindkoiomieaa.Tur
open Duv

/-! ### Words by what is read of them -/
/-- Ahead of all that is read from its other places: a falling word. -/
theorem lyn_of_rot {w : List UInt8} {m : Nat} (hm : w.length = m) (h : ∀ i, 0 < i → i < m → Lt (rd w 0) (rd w i)) : Lyn (bt w) m := by
  have rot : ∀ i, 0 < i → i < m → ∃ k, k < m ∧ (∀ j, j < k → bt w j = bt w ((i + j) % m)) ∧ bt w k < bt w ((i + k) % m) := by
    intro i h0 h1
    obtain ⟨k, a, b⟩ := h i h0 h1
    have hk : k < m := by
      rcases Nat.lt_or_ge k m with hk | hk
      · exact hk
      · have := same_one (by omega) (hm ▸ rd_per w 0) (hm ▸ rd_per w i) (fun j hj => a j (by omega))
        rw [this] at b
        exact absurd b (Nat.lt_irrefl _)
    refine ⟨k, hk, fun j hj => ?_, ?_⟩
    · have := a j hj
      unfold rd at this
      rwa [hm, Nat.zero_add, Nat.mod_eq_of_lt (by omega)] at this
    · unfold rd at b
      rwa [hm, Nat.zero_add, Nat.mod_eq_of_lt hk] at b
  intro i h0 h1
  obtain ⟨k, hk, a, b⟩ := rot i h0 h1
  by_cases hik : i + k < m
  · refine ⟨k, hik, fun j hj => ?_, ?_⟩
    · have := a j hj
      rw [Nat.mod_eq_of_lt (by omega)] at this
      exact this.symm
    · rwa [Nat.mod_eq_of_lt hik] at b
  · exfalso
    obtain ⟨k2, hk2, a2, b2⟩ := rot (m - i) (by omega) (by omega)
    have modlt : ∀ x, m ≤ x → x < 2 * m → x % m = x - m := fun x h1 h2 => by
      rw [Nat.mod_eq_sub_mod h1, Nat.mod_eq_of_lt (by omega)]
    -- e: where the other comparison parts
    obtain ⟨e, he⟩ : ∃ e, k = (m - i) + e := ⟨k - (m - i), by omega⟩
    have hb : bt w (m - i + e) < bt w e := by
      rw [modlt _ (by omega) (by omega), show i + k - m = e by omega, he] at b
      exact b
    have ha : ∀ j, j < e → bt w (m - i + j) = bt w j := fun j hj => by
      have := a (m - i + j) (by omega)
      rw [modlt _ (by omega) (by omega), show i + (m - i + j) - m = j by omega] at this
      exact this
    have ei : e < i := by omega
    rcases Nat.lt_trichotomy e k2 with h | h | h
    · have := a2 e h
      rw [Nat.mod_eq_of_lt (by omega)] at this
      omega
    · subst h
      rw [Nat.mod_eq_of_lt (by omega)] at b2
      omega
    · have := ha k2 h
      rw [Nat.mod_eq_of_lt (by omega)] at b2
      omega

/-- Falling words stand as they do when they are read on and on. -/
theorem le_of_rd {u v : List UInt8} (hu : Lyn (bt u) u.length) (hv : 0 < v.length) (h : ¬ Lt (rd v 0) (rd u 0)) : leB u v = true := by
  rcases less_split u v with h1 | ⟨j, h1, h2, h3, h4⟩ | ⟨h1, h2⟩
  · exact h1
  · refine absurd ⟨j, fun k hk => ?_, ?_⟩ h
    · unfold rd
      rw [Nat.zero_add, Nat.mod_eq_of_lt (by omega), Nat.mod_eq_of_lt (by omega)]
      exact (h3 k hk).symm
    · unfold rd
      rw [Nat.zero_add, Nat.mod_eq_of_lt h2, Nat.mod_eq_of_lt h1]
      exact h4
  · obtain ⟨j, a, b, c⟩ := hu v.length hv h1
    have per := rd_per v 0
    have ag : ∀ x, x < v.length + j → rd v 0 x = bt u x := by
      intro x
      induction x using Nat.strongRecOn with
      | ind x ih =>
        intro hx
        by_cases hxv : x < v.length
        · unfold rd
          rw [Nat.zero_add, Nat.mod_eq_of_lt hxv]
          exact (h2 x hxv).symm
        · have e := per (x - v.length)
          rw [show x - v.length + v.length = x by omega] at e
          rw [e, ih (x - v.length) (by omega) (by omega), ← b (x - v.length) (by omega)]
          congr 1
          omega
    refine absurd ⟨v.length + j, fun x hx => ?_, ?_⟩ h
    · rw [ag x hx]
      unfold rd
      rw [Nat.zero_add, Nat.mod_eq_of_lt (by omega)]
    · have e := per j
      rw [Nat.add_comm v.length j, e, ag j (by omega)]
      unfold rd
      rw [Nat.zero_add, Nat.mod_eq_of_lt (by omega), Nat.add_comm]
      exact c

/-! ### Cycles -/
/-- Going ahead j times. -/
def it (p : Nat → Nat) : Nat → Nat → Nat
  | 0, r => r
  | j + 1, r => p (it p j r)

/-- p: where the rows go when they are sorted by their letter, and then as they stand. -/
structure Ahead (t : List UInt8) (p : Nat → Nat) : Prop where
  lt : ∀ r, r < t.length → p r < t.length
  ord : ∀ r s, r < t.length → s < t.length → (p r < p s ↔ bt t r < bt t s ∨ (bt t r = bt t s ∧ r < s))

theorem Ahead.inj {t : List UInt8} {p : Nat → Nat} (h : Ahead t p) {r s : Nat} (hr : r < t.length) (hs : s < t.length) (e : p r = p s) : r = s := by
  have h1 := h.ord r s hr hs
  have h2 := h.ord s r hs hr
  rw [e] at h1 h2
  have : ¬ p s < p s := Nat.lt_irrefl _
  have h3 : ¬ _ := fun x => this (h1.2 x)
  have h4 : ¬ _ := fun x => this (h2.2 x)
  rcases Nat.lt_trichotomy (bt t r) (bt t s) with a | a | a
  · exact absurd (.inl a) h3
  · rcases Nat.lt_trichotomy r s with b | b | b
    · exact absurd (.inr ⟨a, b⟩) h3
    · exact b
    · exact absurd (.inr ⟨a.symm, b⟩) h4
  · exact absurd (.inl a) h4

theorem Ahead.it_lt {t : List UInt8} {p : Nat → Nat} (h : Ahead t p) {r : Nat} (hr : r < t.length) : ∀ j, it p j r < t.length
  | 0 => hr
  | j + 1 => h.lt _ (h.it_lt hr j)

/-- A cycle: its least row, and how many there are. -/
structure Cyc (t : List UInt8) (p : Nat → Nat) (c : Nat × Nat) : Prop where
  pos : 0 < c.2
  lt : c.1 < t.length
  round : it p c.2 c.1 = c.1
  least : ∀ j, 0 < j → j < c.2 → c.1 < it p j c.1

/-- Its word: the letters, going ahead from its end. -/
def word (t : List UInt8) (p : Nat → Nat) (c : Nat × Nat) : List UInt8 := (List.range c.2).map fun i => t[it p (c.2 - 1 - i) c.1]?.getD 0

/-- The row of a place of the word. -/
def rho (p : Nat → Nat) (c : Nat × Nat) (i : Nat) : Nat := it p (c.2 - i) c.1

theorem word_length (t : List UInt8) (p : Nat → Nat) (c : Nat × Nat) : (word t p c).length = c.2 := by simp [word]

theorem word_bt (t : List UInt8) (p : Nat → Nat) (c : Nat × Nat) {i : Nat} (h : i < c.2) : bt (word t p c) i = bt t (it p (c.2 - 1 - i) c.1) := by
  simp [bt, word, h]

theorem rho_lt {t : List UInt8} {p : Nat → Nat} (hA : Ahead t p) {c : Nat × Nat} (hc : Cyc t p c) (i : Nat) : rho p c i < t.length := hA.it_lt hc.lt _

theorem rho_step {t : List UInt8} {p : Nat → Nat} {c : Nat × Nat} (hc : Cyc t p c) {i : Nat} (h : i < c.2) : rho p c i = p (rho p c ((i + 1) % c.2)) := by
  by_cases h1 : i + 1 < c.2
  · rw [Nat.mod_eq_of_lt h1]
    unfold rho
    rw [show c.2 - i = (c.2 - (i + 1)) + 1 by omega]
    rfl
  · have : i + 1 = c.2 := by omega
    rw [this, Nat.mod_self]
    unfold rho
    rw [Nat.sub_zero, hc.round, show c.2 - i = 1 by omega]
    rfl

theorem rho_letter {t : List UInt8} {p : Nat → Nat} {c : Nat × Nat} (hc : Cyc t p c) {i : Nat} (h : i < c.2) : bt (word t p c) i = bt t (rho p c ((i + 1) % c.2)) := by
  rw [word_bt _ _ _ h]
  by_cases h1 : i + 1 < c.2
  · rw [Nat.mod_eq_of_lt h1]
    unfold rho
    congr 2
    omega
  · have : i + 1 = c.2 := by omega
    rw [this, Nat.mod_self]
    unfold rho
    rw [Nat.sub_zero, hc.round, show c.2 - 1 - i = 0 by omega]
    rfl

theorem rho_ah {t : List UInt8} {p : Nat → Nat} {c : Nat × Nat} (hc : Cyc t p c) {i : Nat} (h : i < c.2) : ah (word t p c) i = t[rho p c i]?.getD 0 := by
  have hp := hc.pos
  apply UInt8.toNat_inj.1
  show bt (word t p c) ((i + (word t p c).length - 1) % (word t p c).length) = bt t (rho p c i)
  rw [word_length]
  have hm := Nat.mod_lt (i + c.2 - 1) hp
  rw [rho_letter hc hm]
  congr 2
  by_cases h0 : i = 0
  · subst h0
    rw [Nat.zero_add, Nat.mod_eq_of_lt (show c.2 - 1 < c.2 by omega), show c.2 - 1 + 1 = c.2 by omega, Nat.mod_self]
  · rw [show i + c.2 - 1 = i - 1 + c.2 by omega, Nat.add_mod_right, Nat.mod_eq_of_lt (show i - 1 < c.2 by omega), show i - 1 + 1 = i by omega, Nat.mod_eq_of_lt h]

theorem rd_word {t : List UInt8} {p : Nat → Nat} {c : Nat × Nat} (hc : Cyc t p c) (i k : Nat) : rd (word t p c) i k = bt t (rho p c ((i + (k + 1)) % c.2)) := by
  unfold rd
  rw [word_length, rho_letter hc (Nat.mod_lt _ hc.pos), Nat.mod_add_mod]
  rfl

/-- Rows keep their order as long as the same is read. -/
theorem keep {t : List UInt8} {p : Nat → Nat} (hA : Ahead t p) {c d : Nat × Nat} (hc : Cyc t p c) (hd : Cyc t p d) {i j : Nat} (hi : i < c.2) (hj : j < d.2) (h : rho p c i < rho p d j) :
    ∀ k, (∀ x, x < k → rd (word t p c) i x = rd (word t p d) j x) → rho p c ((i + k) % c.2) < rho p d ((j + k) % d.2)
  | 0, _ => by
    rw [Nat.add_zero, Nat.add_zero, Nat.mod_eq_of_lt hi, Nat.mod_eq_of_lt hj]
    exact h
  | k + 1, hx => by
    have ih := keep hA hc hd hi hj h k (fun x hk => hx x (by omega))
    rw [rho_step hc (Nat.mod_lt _ hc.pos), rho_step hd (Nat.mod_lt _ hd.pos), Nat.mod_add_mod, Nat.mod_add_mod] at ih
    have e := hx k (by omega)
    rw [rd_word hc, rd_word hd] at e
    have := (hA.ord _ _ (rho_lt hA hc _) (rho_lt hA hd _)).1 ih
    rw [show i + k + 1 = i + (k + 1) by omega, show j + k + 1 = j + (k + 1) by omega] at this
    omega

/-- The rows are sorted by what is read. -/
theorem sorted {t : List UInt8} {p : Nat → Nat} (hA : Ahead t p) {c d : Nat × Nat} (hc : Cyc t p c) (hd : Cyc t p d) {i j : Nat} (hi : i < c.2) (hj : j < d.2) (h : rho p c i < rho p d j) :
    ¬ Lt (rd (word t p d) j) (rd (word t p c) i) := by
  rintro ⟨k, a, b⟩
  have ih := keep hA hc hd hi hj h k (fun x hk => (a x hk).symm)
  rw [rho_step hc (Nat.mod_lt _ hc.pos), rho_step hd (Nat.mod_lt _ hd.pos), Nat.mod_add_mod, Nat.mod_add_mod] at ih
  rw [rd_word hc, rd_word hd] at b
  have := (hA.ord _ _ (rho_lt hA hc _) (rho_lt hA hd _)).1 ih
  rw [show i + k + 1 = i + (k + 1) by omega, show j + k + 1 = j + (k + 1) by omega] at this
  omega

theorem strict {t : List UInt8} {p : Nat → Nat} (hA : Ahead t p) {c : Nat × Nat} (hc : Cyc t p c) {i : Nat} (h0 : 0 < i) (hi : i < c.2) : Lt (rd (word t p c) 0) (rd (word t p c) i) := by
  have hr : rho p c 0 < rho p c i := by
    unfold rho
    rw [Nat.sub_zero, hc.round]
    exact hc.least _ (by omega) (by omega)
  rcases Lt.total (rd (word t p c) 0) (rd (word t p c) i) with h | h | h
  · exact h
  · exact absurd h (sorted hA hc hc hc.pos hi hr)
  · exfalso
    have up : ∀ s, s ≤ rho p c ((s * i) % c.2) := by
      intro s
      induction s with
      | zero => exact Nat.zero_le _
      | succ s ih =>
        have := keep hA hc hc hc.pos hi hr (s * i) (fun x _ => by rw [h])
        rw [Nat.zero_add] at this
        rw [Nat.succ_mul, Nat.add_comm (s * i) i]
        omega
    have h1 := up t.length
    have h2 := rho_lt hA hc ((t.length * i) % c.2)
    omega

theorem word_lyn {t : List UInt8} {p : Nat → Nat} (hA : Ahead t p) {c : Nat × Nat} (hc : Cyc t p c) : Lyn (bt (word t p c)) c.2 :=
  lyn_of_rot (word_length t p c) fun _ h0 h1 => strict hA hc h0 h1

theorem word_word {t : List UInt8} {p : Nat → Nat} (hA : Ahead t p) {c : Nat × Nat} (hc : Cyc t p c) : Word (word t p c) := by
  have := word_of (l := word t p c) (n := c.2) hc.pos (by rw [word_length]; exact Nat.le_refl _) (word_lyn hA hc)
  rwa [List.take_of_length_le (by rw [word_length]; exact Nat.le_refl _)] at this

theorem word_le {t : List UInt8} {p : Nat → Nat} (hA : Ahead t p) {c d : Nat × Nat} (hc : Cyc t p c) (hd : Cyc t p d) (h : c.1 < d.1) : leB (word t p c) (word t p d) = true := by
  refine le_of_rd ?_ (by rw [word_length]; exact hd.pos) (sorted hA hc hd hc.pos hd.pos ?_)
  · rw [word_length]
    exact word_lyn hA hc
  · unfold rho
    rw [Nat.sub_zero, Nat.sub_zero, hc.round, hd.round]
    exact h

/-! ### All cycles -/
/-- The rows of a cycle. -/
def rows (p : Nat → Nat) (c : Nat × Nat) : List Nat := (List.range c.2).map fun j => it p j c.1

theorem perm_lift {α β : Type} (f : α → β) {l l' : List β} (h : l.Perm l') : ∀ P : List α, l' = P.map f → ∃ P' : List α, P'.Perm P ∧ l = P'.map f := by
  induction h with
  | nil => intro P h; cases P with
    | nil => exact ⟨[], .refl _, rfl⟩
    | cons a b => simp at h
  | cons x h ih =>
    intro P e
    cases P with
    | nil => simp at e
    | cons a P =>
      simp only [List.map_cons, List.cons.injEq] at e
      obtain ⟨P', h1, h2⟩ := ih P e.2
      exact ⟨a :: P', h1.cons a, by rw [List.map_cons, ← h2, e.1]⟩
  | swap x y l =>
    intro P e
    match P, e with
    | a :: b :: P, e =>
      simp only [List.map_cons, List.cons.injEq] at e
      exact ⟨b :: a :: P, .swap _ _ _, by rw [List.map_cons, List.map_cons, e.1, e.2.1, e.2.2]⟩
  | trans h1 h2 ih1 ih2 =>
    intro P e
    obtain ⟨P2, a, b⟩ := ih2 P e
    obtain ⟨P1, c, d⟩ := ih1 P2 b
    exact ⟨P1, c.trans a, d⟩

theorem rho_rows {t : List UInt8} {p : Nat → Nat} {c : Nat × Nat} (hc : Cyc t p c) : ((List.range c.2).map (rho p c)).Perm (rows p c) := by
  obtain ⟨f, m⟩ := c
  obtain ⟨hp, hl, hr, hle⟩ := hc
  simp only at hp hl hr hle
  cases m with
  | zero => omega
  | succ m =>
    unfold rows
    simp only
    rw [List.range_succ_eq_map, List.map_cons, List.map_cons, List.map_map, List.map_map]
    have e0 : rho p (f, m + 1) 0 = it p 0 f := hr
    rw [e0]
    refine List.Perm.cons _ ?_
    have e1 : (List.range m).map (rho p (f, m + 1) ∘ Nat.succ) = ((List.range m).map ((fun j => it p j f) ∘ Nat.succ)).reverse := by
      apply List.ext_getElem
      · simp
      · intro k h1 h2
        simp only [List.length_map, List.length_range] at h1
        simp only [List.getElem_map, List.getElem_range, List.getElem_reverse, List.length_map, List.length_range, Function.comp_apply]
        unfold rho
        congr 1
        show m + 1 - (k + 1) = m - 1 - k + 1
        omega
    rw [e1]
    exact List.reverse_perm _

/-- The cycles are all rows, the later ones ahead. -/
structure All (t : List UInt8) (p : Nat → Nat) (cs : List (Nat × Nat)) : Prop where
  cyc : ∀ c ∈ cs, Cyc t p c
  down : cs.Pairwise fun c d => d.1 < c.1
  perm : (cs.flatMap (rows p)).Perm (List.range t.length)

theorem All.good {t : List UInt8} {p : Nat → Nat} (hA : Ahead t p) {cs : List (Nat × Nat)} (h : All t p cs) : Good (cs.map (word t p)) := by
  refine ⟨fun x hx => ?_, fun i a b ha hb => ?_⟩
  · obtain ⟨c, hc, rfl⟩ := List.mem_map.1 hx
    exact word_word hA (h.cyc c hc)
  · rw [List.getElem?_map] at ha hb
    cases hc : cs[i]? with
    | none => rw [hc] at ha; cases ha
    | some c =>
      cases hd : cs[i + 1]? with
      | none => rw [hd] at hb; cases hb
      | some d =>
        rw [hc] at ha
        rw [hd] at hb
        simp only [Option.map_some, Option.some.injEq] at ha hb
        subst ha
        subst hb
        obtain ⟨h1, e1⟩ := List.getElem?_eq_some_iff.1 hc
        obtain ⟨h2, e2⟩ := List.getElem?_eq_some_iff.1 hd
        have := List.pairwise_iff_getElem.1 h.down i (i + 1) h1 h2 (by omega)
        rw [e1, e2] at this
        exact word_le hA (h.cyc d (List.mem_of_getElem? hd)) (h.cyc c (List.mem_of_getElem? hc)) this

theorem All.turned {t : List UInt8} {p : Nat → Nat} (hA : Ahead t p) {cs : List (Nat × Nat)} (h : All t p cs) : Turned (cs.map (word t p)) t := by
  let P : List ((Nat × Nat) × Nat) := cs.flatMap fun c => (List.range c.2).map fun i => (c, i)
  have hP : ∀ q ∈ P, Cyc t p q.1 ∧ q.2 < q.1.2 := by
    intro q hq
    simp only [P, List.mem_flatMap, List.mem_map, List.mem_range] at hq
    obtain ⟨c, hc, i, hi, rfl⟩ := hq
    exact ⟨h.cyc c hc, hi⟩
  have e1 : (places (cs.map (word t p))).map row = P.map fun q => row (word t p q.1, q.2) := by
    simp only [places, P, List.flatMap_map, List.map_flatMap, List.map_map, word_length]
    rfl
  have e2 : (P.map fun q => rho p q.1 q.2).Perm (List.range t.length) := by
    refine List.Perm.trans ?_ h.perm
    simp only [P, List.map_flatMap, List.map_map]
    have hc := h.cyc
    clear_value P
    clear h hP e1
    induction cs with
    | nil => exact .refl _
    | cons c cs ih =>
      rw [List.flatMap_cons, List.flatMap_cons]
      exact (rho_rows (hc c (by simp))).append (ih (fun d hd => hc d (List.mem_cons_of_mem _ hd)))
  obtain ⟨P', h1, h2⟩ := perm_lift (fun q : (Nat × Nat) × Nat => rho p q.1 q.2) e2.symm P rfl
  have hP' : ∀ q ∈ P', Cyc t p q.1 ∧ q.2 < q.1.2 := fun q hq => hP q (h1.mem_iff.1 hq)
  refine ⟨P'.map fun q => row (word t p q.1, q.2), e1 ▸ h1.map _, ?_, ?_⟩
  · unfold Srt
    rw [List.pairwise_map]
    have hlt : (P'.map fun q => rho p q.1 q.2).Pairwise (· < ·) := h2 ▸ List.pairwise_lt_range
    rw [List.pairwise_map] at hlt
    refine List.Pairwise.imp_of_mem (fun {a b} ha hb hab => ?_) hlt
    exact sorted hA (hP' a ha).1 (hP' b hb).1 (hP' a ha).2 (hP' b hb).2 hab
  · rw [List.map_map]
    have e3 : (P'.map (Prod.snd ∘ fun q => row (word t p q.1, q.2))) = (P'.map fun q => rho p q.1 q.2).map fun r => t[r]?.getD 0 := by
      rw [List.map_map]
      exact List.map_congr_left fun q hq => rho_ah (hP' q hq).1 (hP' q hq).2
    rw [e3, ← h2]
    apply List.ext_getElem
    · simp
    · intro k h1 h2
      simp at h1 h2
      simp [h2]
end Go.Proofs.Ytkiindkoiomieaa.Tur

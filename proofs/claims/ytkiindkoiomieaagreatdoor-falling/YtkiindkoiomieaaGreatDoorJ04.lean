import Derived.Test.YtkiindkoiomieaaGreatDoorJ01
import Derived.Test.YtkiindkoiomieaaGreatDoorJ03
import Derived.BigRegion
import Derived.Lib.Builder
import Derived.Laws.Externs
import Derived.Laws.CopyOwn
import Derived.Deep.RegionLaw
section
/-
  Plain mathematics of P4: rows that are sorted stably, their cycles, and the words that these are. Nothing of the program.
-/
namespace Go.Proofs.YtkiindkoiomieaaGreatDoor.Tur
open Duv

/-! ### Words by what is read of them -/
/-- Ahead of all that is read from its other places: a falling word. -/
theorem lyn_of_rot {w : List UInt8} {m : Nat} (hm : w.length = m) (h : ∀ i, 0 < i → i < m → Lt (rd w 0) (rd w i)) : Lyn (bt w) m := by
  have rot : ∀ i, 0 < i → i < m → ∃ k, k < m ∧ (∀ j, j < k → bt w j = bt w ((i + j) % m)) ∧ bt w k < bt w ((i + k) % m) := by
    intro i h0 h1
    obtain ⟨k, a, b⟩ := h i h0 h1
    have hk : k < m := by
      rcases Nat.lt_or_ge k m with hk | hk
      · exact hk
      · have := same_one (by omega) (hm ▸ rd_per w 0) (hm ▸ rd_per w i) (fun j hj => a j (by omega))
        rw [this] at b
        exact absurd b (Nat.lt_irrefl _)
    refine ⟨k, hk, fun j hj => ?_, ?_⟩
    · have := a j hj
      unfold rd at this
      rwa [hm, Nat.zero_add, Nat.mod_eq_of_lt (by omega)] at this
    · unfold rd at b
      rwa [hm, Nat.zero_add, Nat.mod_eq_of_lt hk] at b
  intro i h0 h1
  obtain ⟨k, hk, a, b⟩ := rot i h0 h1
  by_cases hik : i + k < m
  · refine ⟨k, hik, fun j hj => ?_, ?_⟩
    · have := a j hj
      rw [Nat.mod_eq_of_lt (by omega)] at this
      exact this.symm
    · rwa [Nat.mod_eq_of_lt hik] at b
  · exfalso
    obtain ⟨k2, hk2, a2, b2⟩ := rot (m - i) (by omega) (by omega)
    have modlt : ∀ x, m ≤ x → x < 2 * m → x % m = x - m := fun x h1 h2 => by
      rw [Nat.mod_eq_sub_mod h1, Nat.mod_eq_of_lt (by omega)]
    -- e: where the other comparison parts
    obtain ⟨e, he⟩ : ∃ e, k = (m - i) + e := ⟨k - (m - i), by omega⟩
    have hb : bt w (m - i + e) < bt w e := by
      rw [modlt _ (by omega) (by omega), show i + k - m = e by omega, he] at b
      exact b
    have ha : ∀ j, j < e → bt w (m - i + j) = bt w j := fun j hj => by
      have := a (m - i + j) (by omega)
      rw [modlt _ (by omega) (by omega), show i + (m - i + j) - m = j by omega] at this
      exact this
    have ei : e < i := by omega
    rcases Nat.lt_trichotomy e k2 with h | h | h
    · have := a2 e h
      rw [Nat.mod_eq_of_lt (by omega)] at this
      omega
    · subst h
      rw [Nat.mod_eq_of_lt (by omega)] at b2
      omega
    · have := ha k2 h
      rw [Nat.mod_eq_of_lt (by omega)] at b2
      omega

/-- Falling words stand as they do when they are read on and on. -/
theorem le_of_rd {u v : List UInt8} (hu : Lyn (bt u) u.length) (hv : 0 < v.length) (h : ¬ Lt (rd v 0) (rd u 0)) : leB u v = true := by
  rcases less_split u v with h1 | ⟨j, h1, h2, h3, h4⟩ | ⟨h1, h2⟩
  · exact h1
  · refine absurd ⟨j, fun k hk => ?_, ?_⟩ h
    · unfold rd
      rw [Nat.zero_add, Nat.mod_eq_of_lt (by omega), Nat.mod_eq_of_lt (by omega)]
      exact (h3 k hk).symm
    · unfold rd
      rw [Nat.zero_add, Nat.mod_eq_of_lt h2, Nat.mod_eq_of_lt h1]
      exact h4
  · obtain ⟨j, a, b, c⟩ := hu v.length hv h1
    have per := rd_per v 0
    have ag : ∀ x, x < v.length + j → rd v 0 x = bt u x := by
      intro x
      induction x using Nat.strongRecOn with
      | ind x ih =>
        intro hx
        by_cases hxv : x < v.length
        · unfold rd
          rw [Nat.zero_add, Nat.mod_eq_of_lt hxv]
          exact (h2 x hxv).symm
        · have e := per (x - v.length)
          rw [show x - v.length + v.length = x by omega] at e
          rw [e, ih (x - v.length) (by omega) (by omega), ← b (x - v.length) (by omega)]
          congr 1
          omega
    refine absurd ⟨v.length + j, fun x hx => ?_, ?_⟩ h
    · rw [ag x hx]
      unfold rd
      rw [Nat.zero_add, Nat.mod_eq_of_lt (by omega)]
    · have e := per j
      rw [Nat.add_comm v.length j, e, ag j (by omega)]
      unfold rd
      rw [Nat.zero_add, Nat.mod_eq_of_lt (by omega), Nat.add_comm]
      exact c

/-! ### Cycles -/
/-- Going ahead j times. -/
def it (p : Nat → Nat) : Nat → Nat → Nat
  | 0, r => r
  | j + 1, r => p (it p j r)

/-- p: where the rows go when they are sorted by their letter, and then as they stand. -/
structure Ahead (t : List UInt8) (p : Nat → Nat) : Prop where
  lt : ∀ r, r < t.length → p r < t.length
  ord : ∀ r s, r < t.length → s < t.length → (p r < p s ↔ bt t r < bt t s ∨ (bt t r = bt t s ∧ r < s))

theorem Ahead.inj {t : List UInt8} {p : Nat → Nat} (h : Ahead t p) {r s : Nat} (hr : r < t.length) (hs : s < t.length) (e : p r = p s) : r = s := by
  have h1 := h.ord r s hr hs
  have h2 := h.ord s r hs hr
  rw [e] at h1 h2
  have : ¬ p s < p s := Nat.lt_irrefl _
  have h3 : ¬ _ := fun x => this (h1.2 x)
  have h4 : ¬ _ := fun x => this (h2.2 x)
  rcases Nat.lt_trichotomy (bt t r) (bt t s) with a | a | a
  · exact absurd (.inl a) h3
  · rcases Nat.lt_trichotomy r s with b | b | b
    · exact absurd (.inr ⟨a, b⟩) h3
    · exact b
    · exact absurd (.inr ⟨a.symm, b⟩) h4
  · exact absurd (.inl a) h4

theorem Ahead.it_lt {t : List UInt8} {p : Nat → Nat} (h : Ahead t p) {r : Nat} (hr : r < t.length) : ∀ j, it p j r < t.length
  | 0 => hr
  | j + 1 => h.lt _ (h.it_lt hr j)

/-- A cycle: its least row, and how many there are. -/
structure Cyc (t : List UInt8) (p : Nat → Nat) (c : Nat × Nat) : Prop where
  pos : 0 < c.2
  lt : c.1 < t.length
  round : it p c.2 c.1 = c.1
  least : ∀ j, 0 < j → j < c.2 → c.1 < it p j c.1

/-- Its word: the letters, going ahead from its end. -/
def word (t : List UInt8) (p : Nat → Nat) (c : Nat × Nat) : List UInt8 := (List.range c.2).map fun i => t[it p (c.2 - 1 - i) c.1]?.getD 0

/-- The row of a place of the word. -/
def rho (p : Nat → Nat) (c : Nat × Nat) (i : Nat) : Nat := it p (c.2 - i) c.1

theorem word_length (t : List UInt8) (p : Nat → Nat) (c : Nat × Nat) : (word t p c).length = c.2 := by simp [word]

theorem word_bt (t : List UInt8) (p : Nat → Nat) (c : Nat × Nat) {i : Nat} (h : i < c.2) : bt (word t p c) i = bt t (it p (c.2 - 1 - i) c.1) := by
  simp [bt, word, h]

theorem rho_lt {t : List UInt8} {p : Nat → Nat} (hA : Ahead t p) {c : Nat × Nat} (hc : Cyc t p c) (i : Nat) : rho p c i < t.length := hA.it_lt hc.lt _

theorem rho_step {t : List UInt8} {p : Nat → Nat} {c : Nat × Nat} (hc : Cyc t p c) {i : Nat} (h : i < c.2) : rho p c i = p (rho p c ((i + 1) % c.2)) := by
  by_cases h1 : i + 1 < c.2
  · rw [Nat.mod_eq_of_lt h1]
    unfold rho
    rw [show c.2 - i = (c.2 - (i + 1)) + 1 by omega]
    rfl
  · have : i + 1 = c.2 := by omega
    rw [this, Nat.mod_self]
    unfold rho
    rw [Nat.sub_zero, hc.round, show c.2 - i = 1 by omega]
    rfl

theorem rho_letter {t : List UInt8} {p : Nat → Nat} {c : Nat × Nat} (hc : Cyc t p c) {i : Nat} (h : i < c.2) : bt (word t p c) i = bt t (rho p c ((i + 1) % c.2)) := by
  rw [word_bt _ _ _ h]
  by_cases h1 : i + 1 < c.2
  · rw [Nat.mod_eq_of_lt h1]
    unfold rho
    congr 2
    omega
  · have : i + 1 = c.2 := by omega
    rw [this, Nat.mod_self]
    unfold rho
    rw [Nat.sub_zero, hc.round, show c.2 - 1 - i = 0 by omega]
    rfl

theorem rho_ah {t : List UInt8} {p : Nat → Nat} {c : Nat × Nat} (hc : Cyc t p c) {i : Nat} (h : i < c.2) : ah (word t p c) i = t[rho p c i]?.getD 0 := by
  have hp := hc.pos
  apply UInt8.toNat_inj.1
  show bt (word t p c) ((i + (word t p c).length - 1) % (word t p c).length) = bt t (rho p c i)
  rw [word_length]
  have hm := Nat.mod_lt (i + c.2 - 1) hp
  rw [rho_letter hc hm]
  congr 2
  by_cases h0 : i = 0
  · subst h0
    rw [Nat.zero_add, Nat.mod_eq_of_lt (show c.2 - 1 < c.2 by omega), show c.2 - 1 + 1 = c.2 by omega, Nat.mod_self]
  · rw [show i + c.2 - 1 = i - 1 + c.2 by omega, Nat.add_mod_right, Nat.mod_eq_of_lt (show i - 1 < c.2 by omega), show i - 1 + 1 = i by omega, Nat.mod_eq_of_lt h]

theorem rd_word {t : List UInt8} {p : Nat → Nat} {c : Nat × Nat} (hc : Cyc t p c) (i k : Nat) : rd (word t p c) i k = bt t (rho p c ((i + (k + 1)) % c.2)) := by
  unfold rd
  rw [word_length, rho_letter hc (Nat.mod_lt _ hc.pos), Nat.mod_add_mod]
  rfl

/-- Rows keep their order as long as the same is read. -/
theorem keep {t : List UInt8} {p : Nat → Nat} (hA : Ahead t p) {c d : Nat × Nat} (hc : Cyc t p c) (hd : Cyc t p d) {i j : Nat} (hi : i < c.2) (hj : j < d.2) (h : rho p c i < rho p d j) :
    ∀ k, (∀ x, x < k → rd (word t p c) i x = rd (word t p d) j x) → rho p c ((i + k) % c.2) < rho p d ((j + k) % d.2)
  | 0, _ => by
    rw [Nat.add_zero, Nat.add_zero, Nat.mod_eq_of_lt hi, Nat.mod_eq_of_lt hj]
    exact h
  | k + 1, hx => by
    have ih := keep hA hc hd hi hj h k (fun x hk => hx x (by omega))
    rw [rho_step hc (Nat.mod_lt _ hc.pos), rho_step hd (Nat.mod_lt _ hd.pos), Nat.mod_add_mod, Nat.mod_add_mod] at ih
    have e := hx k (by omega)
    rw [rd_word hc, rd_word hd] at e
    have := (hA.ord _ _ (rho_lt hA hc _) (rho_lt hA hd _)).1 ih
    rw [show i + k + 1 = i + (k + 1) by omega, show j + k + 1 = j + (k + 1) by omega] at this
    omega

/-- The rows are sorted by what is read. -/
theorem sorted {t : List UInt8} {p : Nat → Nat} (hA : Ahead t p) {c d : Nat × Nat} (hc : Cyc t p c) (hd : Cyc t p d) {i j : Nat} (hi : i < c.2) (hj : j < d.2) (h : rho p c i < rho p d j) :
    ¬ Lt (rd (word t p d) j) (rd (word t p c) i) := by
  rintro ⟨k, a, b⟩
  have ih := keep hA hc hd hi hj h k (fun x hk => (a x hk).symm)
  rw [rho_step hc (Nat.mod_lt _ hc.pos), rho_step hd (Nat.mod_lt _ hd.pos), Nat.mod_add_mod, Nat.mod_add_mod] at ih
  rw [rd_word hc, rd_word hd] at b
  have := (hA.ord _ _ (rho_lt hA hc _) (rho_lt hA hd _)).1 ih
  rw [show i + k + 1 = i + (k + 1) by omega, show j + k + 1 = j + (k + 1) by omega] at this
  omega

theorem strict {t : List UInt8} {p : Nat → Nat} (hA : Ahead t p) {c : Nat × Nat} (hc : Cyc t p c) {i : Nat} (h0 : 0 < i) (hi : i < c.2) : Lt (rd (word t p c) 0) (rd (word t p c) i) := by
  have hr : rho p c 0 < rho p c i := by
    unfold rho
    rw [Nat.sub_zero, hc.round]
    exact hc.least _ (by omega) (by omega)
  rcases Lt.total (rd (word t p c) 0) (rd (word t p c) i) with h | h | h
  · exact h
  · exact absurd h (sorted hA hc hc hc.pos hi hr)
  · exfalso
    have up : ∀ s, s ≤ rho p c ((s * i) % c.2) := by
      intro s
      induction s with
      | zero => exact Nat.zero_le _
      | succ s ih =>
        have := keep hA hc hc hc.pos hi hr (s * i) (fun x _ => by rw [h])
        rw [Nat.zero_add] at this
        rw [Nat.succ_mul, Nat.add_comm (s * i) i]
        omega
    have h1 := up t.length
    have h2 := rho_lt hA hc ((t.length * i) % c.2)
    omega

theorem word_lyn {t : List UInt8} {p : Nat → Nat} (hA : Ahead t p) {c : Nat × Nat} (hc : Cyc t p c) : Lyn (bt (word t p c)) c.2 :=
  lyn_of_rot (word_length t p c) fun _ h0 h1 => strict hA hc h0 h1

theorem word_word {t : List UInt8} {p : Nat → Nat} (hA : Ahead t p) {c : Nat × Nat} (hc : Cyc t p c) : Word (word t p c) := by
  have := word_of (l := word t p c) (n := c.2) hc.pos (by rw [word_length]; exact Nat.le_refl _) (word_lyn hA hc)
  rwa [List.take_of_length_le (by rw [word_length]; exact Nat.le_refl _)] at this

theorem word_le {t : List UInt8} {p : Nat → Nat} (hA : Ahead t p) {c d : Nat × Nat} (hc : Cyc t p c) (hd : Cyc t p d) (h : c.1 < d.1) : leB (word t p c) (word t p d) = true := by
  refine le_of_rd ?_ (by rw [word_length]; exact hd.pos) (sorted hA hc hd hc.pos hd.pos ?_)
  · rw [word_length]
    exact word_lyn hA hc
  · unfold rho
    rw [Nat.sub_zero, Nat.sub_zero, hc.round, hd.round]
    exact h

/-! ### All cycles -/
/-- The rows of a cycle. -/
def rows (p : Nat → Nat) (c : Nat × Nat) : List Nat := (List.range c.2).map fun j => it p j c.1

theorem perm_lift {α β : Type} (f : α → β) {l l' : List β} (h : l.Perm l') : ∀ P : List α, l' = P.map f → ∃ P' : List α, P'.Perm P ∧ l = P'.map f := by
  induction h with
  | nil => intro P h; cases P with
    | nil => exact ⟨[], .refl _, rfl⟩
    | cons a b => simp at h
  | cons x h ih =>
    intro P e
    cases P with
    | nil => simp at e
    | cons a P =>
      simp only [List.map_cons, List.cons.injEq] at e
      obtain ⟨P', h1, h2⟩ := ih P e.2
      exact ⟨a :: P', h1.cons a, by rw [List.map_cons, ← h2, e.1]⟩
  | swap x y l =>
    intro P e
    match P, e with
    | a :: b :: P, e =>
      simp only [List.map_cons, List.cons.injEq] at e
      exact ⟨b :: a :: P, .swap _ _ _, by rw [List.map_cons, List.map_cons, e.1, e.2.1, e.2.2]⟩
  | trans h1 h2 ih1 ih2 =>
    intro P e
    obtain ⟨P2, a, b⟩ := ih2 P e
    obtain ⟨P1, c, d⟩ := ih1 P2 b
    exact ⟨P1, c.trans a, d⟩

theorem rho_rows {t : List UInt8} {p : Nat → Nat} {c : Nat × Nat} (hc : Cyc t p c) : ((List.range c.2).map (rho p c)).Perm (rows p c) := by
  obtain ⟨f, m⟩ := c
  obtain ⟨hp, hl, hr, hle⟩ := hc
  simp only at hp hl hr hle
  cases m with
  | zero => omega
  | succ m =>
    unfold rows
    simp only
    rw [List.range_succ_eq_map, List.map_cons, List.map_cons, List.map_map, List.map_map]
    have e0 : rho p (f, m + 1) 0 = it p 0 f := hr
    rw [e0]
    refine List.Perm.cons _ ?_
    have e1 : (List.range m).map (rho p (f, m + 1) ∘ Nat.succ) = ((List.range m).map ((fun j => it p j f) ∘ Nat.succ)).reverse := by
      apply List.ext_getElem
      · simp
      · intro k h1 h2
        simp only [List.length_map, List.length_range] at h1
        simp only [List.getElem_map, List.getElem_range, List.getElem_reverse, List.length_map, List.length_range, Function.comp_apply]
        unfold rho
        congr 1
        show m + 1 - (k + 1) = m - 1 - k + 1
        omega
    rw [e1]
    exact List.reverse_perm _

/-- The cycles are all rows, the later ones ahead. -/
structure All (t : List UInt8) (p : Nat → Nat) (cs : List (Nat × Nat)) : Prop where
  cyc : ∀ c ∈ cs, Cyc t p c
  down : cs.Pairwise fun c d => d.1 < c.1
  perm : (cs.flatMap (rows p)).Perm (List.range t.length)

theorem All.good {t : List UInt8} {p : Nat → Nat} (hA : Ahead t p) {cs : List (Nat × Nat)} (h : All t p cs) : Good (cs.map (word t p)) := by
  refine ⟨fun x hx => ?_, fun i a b ha hb => ?_⟩
  · obtain ⟨c, hc, rfl⟩ := List.mem_map.1 hx
    exact word_word hA (h.cyc c hc)
  · rw [List.getElem?_map] at ha hb
    cases hc : cs[i]? with
    | none => rw [hc] at ha; cases ha
    | some c =>
      cases hd : cs[i + 1]? with
      | none => rw [hd] at hb; cases hb
      | some d =>
        rw [hc] at ha
        rw [hd] at hb
        simp only [Option.map_some, Option.some.injEq] at ha hb
        subst ha
        subst hb
        obtain ⟨h1, e1⟩ := List.getElem?_eq_some_iff.1 hc
        obtain ⟨h2, e2⟩ := List.getElem?_eq_some_iff.1 hd
        have := List.pairwise_iff_getElem.1 h.down i (i + 1) h1 h2 (by omega)
        rw [e1, e2] at this
        exact word_le hA (h.cyc d (List.mem_of_getElem? hd)) (h.cyc c (List.mem_of_getElem? hc)) this

theorem All.turned {t : List UInt8} {p : Nat → Nat} (hA : Ahead t p) {cs : List (Nat × Nat)} (h : All t p cs) : Turned (cs.map (word t p)) t := by
  let P : List ((Nat × Nat) × Nat) := cs.flatMap fun c => (List.range c.2).map fun i => (c, i)
  have hP : ∀ q ∈ P, Cyc t p q.1 ∧ q.2 < q.1.2 := by
    intro q hq
    simp only [P, List.mem_flatMap, List.mem_map, List.mem_range] at hq
    obtain ⟨c, hc, i, hi, rfl⟩ := hq
    exact ⟨h.cyc c hc, hi⟩
  have e1 : (places (cs.map (word t p))).map row = P.map fun q => row (word t p q.1, q.2) := by
    simp only [places, P, List.flatMap_map, List.map_flatMap, List.map_map, word_length]
    rfl
  have e2 : (P.map fun q => rho p q.1 q.2).Perm (List.range t.length) := by
    refine List.Perm.trans ?_ h.perm
    simp only [P, List.map_flatMap, List.map_map]
    have hc := h.cyc
    clear_value P
    clear h hP e1
    induction cs with
    | nil => exact .refl _
    | cons c cs ih =>
      rw [List.flatMap_cons, List.flatMap_cons]
      exact (rho_rows (hc c (by simp))).append (ih (fun d hd => hc d (List.mem_cons_of_mem _ hd)))
  obtain ⟨P', h1, h2⟩ := perm_lift (fun q : (Nat × Nat) × Nat => rho p q.1 q.2) e2.symm P rfl
  have hP' : ∀ q ∈ P', Cyc t p q.1 ∧ q.2 < q.1.2 := fun q hq => hP q (h1.mem_iff.1 hq)
  refine ⟨P'.map fun q => row (word t p q.1, q.2), e1 ▸ h1.map _, ?_, ?_⟩
  · unfold Srt
    rw [List.pairwise_map]
    have hlt : (P'.map fun q => rho p q.1 q.2).Pairwise (· < ·) := h2 ▸ List.pairwise_lt_range
    rw [List.pairwise_map] at hlt
    refine List.Pairwise.imp_of_mem (fun {a b} ha hb hab => ?_) hlt
    exact sorted hA (hP' a ha).1 (hP' b hb).1 (hP' a ha).2 (hP' b hb).2 hab
  · rw [List.map_map]
    have e3 : (P'.map (Prod.snd ∘ fun q => row (word t p q.1, q.2))) = (P'.map fun q => rho p q.1 q.2).map fun r => t[r]?.getD 0 := by
      rw [List.map_map]
      exact List.map_congr_left fun q hq => rho_ah (hP' q hq).1 (hP' q hq).2
    rw [e3, ← h2]
    apply List.ext_getElem
    · simp
    · intro k h1 h2
      simp at h1 h2
      simp [h2]
end Go.Proofs.YtkiindkoiomieaaGreatDoor.Tur
end

section
/-
  P4: the walk of rowsAhead.
-/
namespace Go.Proofs.YtkiindkoiomieaaGreatDoor
open Go.RowKit Go.Lib Go.Sort Go.Maps

/-- The first k of n pairs: as f says; zeros behind them. -/
def fillP (f : Nat → Int × Int) (n k : Nat) : Array (Int × Int) := ((List.range n).map fun j => if j < k then f j else (0, 0)).toArray

theorem fillP_size (f : Nat → Int × Int) (n k : Nat) : (fillP f n k).size = n := by simp [fillP]
theorem fillP_zero (f : Nat → Int × Int) (n : Nat) : zeroP n = fillP f n 0 := by
  apply Array.ext
  · simp [fillP, zeroP]
  · intro i h1 h2
    simp [fillP, zeroP]
theorem fillP_set (f : Nat → Int × Int) (n k : Nat) : (fillP f n k).setIfInBounds k (f k) = fillP f n (k + 1) := by
  apply Array.ext
  · simp [fillP]
  · intro i h1 h2
    simp only [fillP, List.setIfInBounds_toArray, List.getElem_toArray, List.getElem_set, List.getElem_map, List.getElem_range]
    by_cases hk : k = i
    · subst hk
      simp
    · rw [if_neg hk]
      by_cases h3 : i < k
      · rw [if_pos h3, if_pos (by omega)]
      · rw [if_neg h3, if_neg (by omega)]
theorem fillP_at (f : Nat → Int × Int) {n j : Nat} (h : j < n) : (fillP f n n)[j]! = f j := by
  rw [getElem!_pos _ j (by rw [fillP_size]; exact h)]
  simp [fillP, h]
theorem fillP_wf {f : Nat → Int × Int} {n : Nat} (h : ∀ j, j < n → (Lit.int .i64 (f j).1).wf = true ∧ (Lit.int .i64 (f j).2).wf = true) : Wf (fillP f n n).toList := by
  intro x hx
  simp only [fillP, List.mem_map, List.mem_range] at hx
  obtain ⟨j, hj, rfl⟩ := hx
  rw [if_pos hj]
  exact h j hj

theorem wrap64_byte (b : UInt8) : wrap64 (b.toNat : Int) = (b.toNat : Int) := by
  have := b.toNat_lt
  exact IntWalk.wrap64_in _ (by omega)

set_option maxHeartbeats 1000000 in
set_option maxRecDepth 100000 in
theorem rows_any (s : ByteArray) (w : World) (hs : s.size ≤ 500) :
    Calls Tryz.prog 92 #[.string s] w fun e w' => ∃ g p, e = .returned (.slice (some ⟨g, 0, none⟩) s.size s.size) ∧ NumsAt w' g ((List.range s.size).map p) ∧ w.heap.size ≤ g ∧ Below w.heap.size w w' ∧ Tur.Ahead s.data.toList p := by
  obtain ⟨cs, hmk, hsize, hlie⟩ := make_pairs s.size (by omega)
  have HLI := hide hlie
  clear hlie hsize
  obtain ⟨f, hf⟩ : ∃ f : Nat → Int × Int, f = fun j => (((Duv.bt s.data.toList j : Nat) : Int), ((j : Nat) : Int)) := ⟨_, rfl⟩
  have HF := hide hf
  clear hf
  go_enter Tryz.func92, Tryz.ntmps92
  go_wp2
  clear hmk
  go_loopw [10] (fun kv wr => ∃ k : Nat, k ≤ s.size ∧ kv = .int .i64 k ∧ Hid (Lies wr w.heap.size (fillP f s.size k)) ∧ Below w.heap.size w wr) (fun kv _ => s.size - (intOf kv).toNat)
  case atStart => exact ⟨0, by omega, rfl, by rw [← fillP_zero]; exact hide (HLI.out _ _ (heap_alloc_new _ _)), (Below.refl _ _).alloc (Nat.le_refl _) _⟩
  case round =>
    obtain ⟨k, hk, rfl, HL, hbx⟩ := hrel
    by_cases hlt : k < s.size
    · obtain ⟨c1, c2⟩ := HL.out.cell (j := k) (by rw [fillP_size]; exact hlt)
      generalize (fillP f s.size k)[k]! = old at c1 c2
      have f1 := HL.out.frozen (k * 2)
      have f2 := HL.out.frozen (k * 2 + 1)
      go_wp2
      go_roundw
      case rel =>
        refine ⟨k + 1, by omega, by go_num, ?_, ?_⟩
        · apply hide
          rw [wrap64_byte]
          have := HL.out.set (i := k) (by rw [fillP_size]; exact hlt) (s[k].toNat : Int) (k : Int)
          have e : ((s[k].toNat : Int), (k : Int)) = f k := by rw [HF.out, byte_bt s k hlt]
          rw [e, fillP_set] at this
          exact this
        · exact (hbx.setCell (p := ⟨w.heap.size, k * 2, none⟩) (Nat.le_refl _) _).setCell (p := ⟨w.heap.size, k * 2 + 1, none⟩) (Nat.le_refl _) _
      case measure => simp [intOf]; omega
    · have hkd : k = s.size := by omega
      have hL := HL.out
      rw [hkd] at hL
      have hsz := fillP_size f s.size s.size
      have cR := ranks_any w.heap.size s.size (fillP f s.size s.size) wr (by rw [hsz]; exact hs) hL (fillP_wf fun j hj => by
        rw [HF.out]
        have := bt_lt s.data.toList j
        exact ⟨WalkArith.wf_i64 (by simp only; omega), WalkArith.wf_i64 (by simp only; omega)⟩)
      rw [hsz] at cR
      have CR := hide cR
      clear cR hL hsz HL hkd
      go_wp2_with (go_at_call 115; refine CR.out.mono ?_; rintro e w1 ⟨g', p, rfl, hN, hg', hb1, hR⟩)
      go_ret
      refine ⟨g', p, rfl, hN, Nat.le_trans hbx.size hg', hbx.trans (hb1.mono hbx.size), ⟨fun r hr => ?_, fun r q hr hq => ?_⟩⟩
      · have hr' : r < s.size := by rw [Lib.size_eq]; exact hr
        have := hR.lt r (by rw [fillP_size]; exact hr')
        rw [fillP_size] at this
        rw [← Lib.size_eq]
        exact this
      · have hr' : r < s.size := by rw [Lib.size_eq]; exact hr
        have hq' : q < s.size := by rw [Lib.size_eq]; exact hq
        rw [hR.ord r q (by rw [fillP_size]; exact hr') (by rw [fillP_size]; exact hq'), fillP_at f hr', fillP_at f hq', HF.out, ltP_iff]
        simp only
        omega
end Go.Proofs.YtkiindkoiomieaaGreatDoor
end

section
/-
  P4: the walk of readTwice.
-/
namespace Go.Proofs.YtkiindkoiomieaaGreatDoor
open Go.RowKit Go.Lib

set_option maxHeartbeats 2000000 in
set_option maxRecDepth 100000 in
theorem twice_any (gr cr go co n : Nat) (rk on : Nat → Nat) (w : World) (hn : n ≤ 300) (hgr : gr < w.heap.size) (hgo : go < w.heap.size) (hr : ∀ x, x < n → w.cell? ⟨gr, x, none⟩ = some (.int .i64 (rk x : Int))) (ho : ∀ x, x < n → w.cell? ⟨go, x, none⟩ = some (.int .i64 (on x : Int))) (hrk : ∀ x, x < n → rk x ≤ 300) (hon : ∀ x, x < n → on x < n) :
    Calls Tryz.prog 94 #[.slice (some ⟨gr, 0, none⟩) n cr, .slice (some ⟨go, 0, none⟩) n co] w fun e w' => ∃ g1 g2 rk', e = .returned (.tuple #[.slice (some ⟨g1, 0, none⟩) n n, .slice (some ⟨g2, 0, none⟩) n n]) ∧ NumsAt w' g1 ((List.range n).map rk') ∧ NumsAt w' g2 ((List.range n).map fun x => on (on x)) ∧ Below w.heap.size w w' ∧ (∀ x, x < n → rk' x < n) ∧ ∀ x y, x < n → y < n → (rk' x < rk' y ↔ rk x < rk y ∨ (rk x = rk y ∧ rk (on x) < rk (on y))) := by
  obtain ⟨cs, hmk, hsize, hlie⟩ := make_pairs n (by omega)
  have hmi := make_ints n (by omega)
  have HLI := hide hlie
  have HR := hide hr
  have HO := hide ho
  have HRK := hide hrk
  have HON := hide hon
  obtain ⟨f, hf⟩ : ∃ f : Nat → Int × Int, f = fun j => (((rk j : Nat) : Int), ((rk (on j) : Nat) : Int)) := ⟨_, rfl⟩
  have HF := hide hf
  clear hlie hsize hr ho hrk hon hf
  go_enter Tryz.func94, Tryz.ntmps94
  go_wp2
  clear hmk hmi
  go_loopw [17] (fun kv wr => ∃ k : Nat, k ≤ n ∧ kv = .int .i64 k ∧ Hid (Lies wr w.heap.size (fillP f n k)) ∧ Hid (NumsAt wr (w.heap.size + 1) (fill (fun x => on (on x)) n k)) ∧ Below w.heap.size w wr) (fun kv _ => n - (intOf kv).toNat)
  case atStart =>
    refine ⟨0, by omega, rfl, ?_, ?_, ((Below.refl _ _).alloc (Nat.le_refl _) _).alloc (by simp) _⟩
    · rw [← fillP_zero]
      refine hide (HLI.out _ _ ?_)
      rw [Lib.alloc_old _ _ _ (by simp)]
      exact heap_alloc_new _ _
    · rw [fill_zero]
      apply hide
      have := heap_alloc_new (w.alloc (.cells cs 77)) (.cells (cellsN (List.replicate n 0)) 3)
      simpa [NumsAt] using this
  case round =>
    obtain ⟨k, hk, rfl, HL, HN, hbx⟩ := hrel
    by_cases hlt : k < n
    · obtain ⟨c1, c2⟩ := HL.out.cell (j := k) (by rw [fillP_size]; exact hlt)
      generalize (fillP f n k)[k]! = old at c1 c2
      have f1 := HL.out.frozen (k * 2)
      have f2 := HL.out.frozen (k * 2 + 1)
      have c3 := cell_here HN.out (cellsN_at (fill_at (fun x => on (on x)) (k := k) hlt))
      rw [if_neg (Nat.lt_irrefl k)] at c3
      have f3 := frozen_of_row _ (w.heap.size + 1) k _ _ HN.out
      have hmn := HON.out k hlt
      have d1 := (hbx.cell (p := ⟨go, k, none⟩) hgo).trans (HO.out k hlt)
      have d2 := (hbx.cell (p := ⟨gr, k, none⟩) hgr).trans (HR.out k hlt)
      have d3 := (hbx.cell (p := ⟨gr, on k, none⟩) hgr).trans (HR.out _ hmn)
      have d4 := (hbx.cell (p := ⟨go, on k, none⟩) hgo).trans (HO.out _ hmn)
      obtain ⟨m, hm⟩ : ∃ m, m = on k := ⟨_, rfl⟩
      obtain ⟨a, ha⟩ : ∃ a, a = rk k := ⟨_, rfl⟩
      obtain ⟨b, hb⟩ : ∃ b, b = rk (on k) := ⟨_, rfl⟩
      obtain ⟨z, hz⟩ : ∃ z, z = on (on k) := ⟨_, rfl⟩
      rw [← hb, ← hm] at d3
      rw [← hz, ← hm] at d4
      rw [← hm] at d1 hmn
      rw [← ha] at d2
      have HM := hide hm
      have HA := hide ha
      have HB := hide hb
      have HZ := hide hz
      have i1 : (0 : Int) ≤ (k : Int) := by omega
      have i2 : (k : Int) < (n : Int) := by omega
      have i3 : (0 : Int) ≤ (m : Int) := by omega
      have i4 : (m : Int) < (n : Int) := by omega
      have n1 : gr ≠ w.heap.size := by omega
      have n2 : go ≠ w.heap.size := by omega
      have n3 : gr ≠ w.heap.size + 1 := by omega
      have n4 : go ≠ w.heap.size + 1 := by omega
      clear hm ha hb hz
      go_wp2_with fail
      go_region
      go_wp2
      go_roundw
      case rel =>
        have hL2 := HL.out.set (i := k) (by rw [fillP_size]; exact hlt) (a : Int) (b : Int)
        have e : ((a : Int), (b : Int)) = f k := by rw [HF.out, HA.out, HB.out]
        rw [e, fillP_set] at hL2
        have hN2 : ((wr.setCell ⟨w.heap.size, k * 2, none⟩ (.int .i64 (a : Int))).setCell ⟨w.heap.size, k * 2 + 1, none⟩ (.int .i64 (b : Int))).heap[w.heap.size + 1]? = some (.cells (cellsN (fill (fun x => on (on x)) n k)) 3 (0, 0)) := by
          rw [heap_setCell_other _ _ _ _ (by simp), heap_setCell_other _ _ _ _ (by simp)]
          exact HN.out
        refine ⟨k + 1, by omega, by go_num, ?_, ?_, ?_⟩
        · exact hide (hL2.kept (heap_setCell_other _ _ _ _ (by simp)))
        · apply hide
          have := heap_setCell_same _ _ k _ _ (.int .i64 (z : Int)) hN2
          rw [cellsN_set, HZ.out] at this
          have e2 := fill_set (fun x => on (on x)) n k
          rw [e2] at this
          rw [HZ.out]
          exact this
        · exact below_drewN (((hbx.setCell (p := ⟨w.heap.size, k * 2, none⟩) (Nat.le_refl _) _).setCell (p := ⟨w.heap.size, k * 2 + 1, none⟩) (Nat.le_refl _) _).setCell (p := ⟨w.heap.size + 1, k, none⟩) (Nat.le_succ _) _) 1
      case measure => simp [intOf]; omega
    · have hkd : k = n := by omega
      have hL := HL.out
      rw [hkd] at hL
      have hN := HN.out
      rw [hkd] at hN
      have hsz := fillP_size f n n
      have cR := ranks_any w.heap.size n (fillP f n n) wr (by rw [hsz]; omega) hL (fillP_wf fun j hj => by
        rw [HF.out]
        have h1 := HRK.out j hj
        have h2 := HRK.out _ (HON.out j hj)
        exact ⟨WalkArith.wf_i64 (by simp only; omega), WalkArith.wf_i64 (by simp only; omega)⟩)
      rw [hsz] at cR
      have CR := hide cR
      have HN2 := hide hN
      have hlt2 := heap_lt0 hN
      clear cR hL hsz HL hkd HN hN
      go_wp2_with (go_at_call 115; refine CR.out.mono ?_; rintro e w1 ⟨g', p, rfl, hN, hg', hb1, hR⟩)
      go_ret2
      refine ⟨g', w.heap.size + 1, p, rfl, hN, ?_, hbx.trans (hb1.mono hbx.size), fun x hx => ?_, fun x y hx hy => ?_⟩
      · unfold NumsAt
        rw [hb1.block _ hlt2]
        have := HN2.out
        have e : fill (fun x => on (on x)) n n = (List.range n).map fun x => on (on x) := by
          unfold fill
          exact List.map_congr_left fun j hj => by rw [if_pos (List.mem_range.1 hj)]
        rw [e] at this
        exact this
      · have := hR.lt x (by rw [fillP_size]; exact hx)
        rwa [fillP_size] at this
      · rw [hR.ord x y (by rw [fillP_size]; exact hx) (by rw [fillP_size]; exact hy), fillP_at f hx, fillP_at f hy, HF.out, ltP_iff]
        simp only
        omega
end Go.Proofs.YtkiindkoiomieaaGreatDoor
end

section
/-
  Plain mathematics of P4: ranks of readings, by doubling. Nothing of the program.
-/
namespace Go.Proofs.YtkiindkoiomieaaGreatDoor.Tur
open Duv

/-- The place behind each place, going round in its word. -/
def nxt : List (List UInt8) → Nat → List Nat
  | [], _ => []
  | w :: ws, st => ((List.range w.length).map fun i => st + (i + 1) % w.length) ++ nxt ws (st + w.length)

theorem nxt_length : ∀ (ws : List (List UInt8)) (st : Nat), (nxt ws st).length = ws.flatten.length
  | [], _ => rfl
  | w :: ws, st => by rw [nxt, List.length_append, nxt_length ws, List.flatten_cons, List.length_append]; simp

theorem nxt_snoc : ∀ (us : List (List UInt8)) (u : List UInt8) (st : Nat), nxt (us ++ [u]) st = nxt us st ++ ((List.range u.length).map fun i => st + us.flatten.length + (i + 1) % u.length)
  | [], u, st => by simp [nxt]
  | w :: us, u, st => by
    rw [List.cons_append, nxt, nxt_snoc us u, nxt, List.append_assoc, List.flatten_cons, List.length_append]
    congr 2
    apply List.map_congr_left
    intro i _
    omega

/-- A place x of the text: place i of the a-th word. -/
structure Loc (ws : List (List UInt8)) (x a i : Nat) (w : List UInt8) : Prop where
  word : ws[a]? = some w
  lt : i < w.length
  eq : x = (ws.take a).flatten.length + i

theorem loc_ex : ∀ (ws : List (List UInt8)) (x : Nat), x < ws.flatten.length → ∃ a i w, Loc ws x a i w
  | [], x, h => by simp at h
  | w :: ws, x, h => by
    by_cases hx : x < w.length
    · exact ⟨0, x, w, rfl, hx, by simp⟩
    · rw [List.flatten_cons, List.length_append] at h
      obtain ⟨a, i, v, h1, h2, h3⟩ := loc_ex ws (x - w.length) (by omega)
      refine ⟨a + 1, i, v, by simpa using h1, h2, ?_⟩
      rw [List.take_succ_cons, List.flatten_cons, List.length_append]
      omega

theorem Loc.small {ws : List (List UInt8)} {x a i : Nat} {w : List UInt8} (h : Loc ws x a i w) : x < ws.flatten.length := by
  have h1 : (ws.take a ++ ws.drop a).flatten.length = ws.flatten.length := by rw [List.take_append_drop]
  have h2 : ws.drop a = w :: ws.drop (a + 1) := by
    obtain ⟨hl, e⟩ := List.getElem?_eq_some_iff.1 h.word
    rw [List.drop_eq_getElem_cons hl, e]
  rw [h2, List.flatten_append, List.length_append, List.flatten_cons, List.length_append] at h1
  have := h.eq
  have := h.lt
  omega

theorem Loc.letter : ∀ {ws : List (List UInt8)} {x a i : Nat} {w : List UInt8}, Loc ws x a i w → ws.flatten[x]? = w[i]? := by
  intro ws
  induction ws with
  | nil => intro x a i w h; have := h.word; simp at this
  | cons v ws ih =>
    intro x a i w h
    obtain ⟨h1, h2, h3⟩ := h
    cases a with
    | zero =>
      simp at h1 h3
      subst h1
      subst h3
      rw [List.flatten_cons, List.getElem?_append_left h2]
    | succ a =>
      rw [List.take_succ_cons, List.flatten_cons, List.length_append] at h3
      rw [List.flatten_cons, List.getElem?_append_right (by omega)]
      exact ih ⟨by simpa using h1, h2, by omega⟩

theorem Loc.nxt : ∀ {ws : List (List UInt8)} {x a i : Nat} {w : List UInt8} (st : Nat), Loc ws x a i w → (nxt ws st)[x]? = some (st + ((ws.take a).flatten.length + (i + 1) % w.length)) := by
  intro ws
  induction ws with
  | nil => intro x a i w st h; have := h.word; simp at this
  | cons v ws ih =>
    intro x a i w st h
    obtain ⟨h1, h2, h3⟩ := h
    cases a with
    | zero =>
      simp at h1 h3
      subst h1
      subst h3
      rw [Tur.nxt, List.getElem?_append_left (by simpa using h2)]
      simp [h2]
    | succ a =>
      rw [List.take_succ_cons, List.flatten_cons, List.length_append] at h3
      rw [Tur.nxt, List.getElem?_append_right (by simp; omega), List.length_map, List.length_range]
      rw [ih (st + v.length) (x := x - v.length) (a := a) (i := i) (w := w) ⟨by simpa using h1, h2, by omega⟩]
      rw [List.take_succ_cons, List.flatten_cons, List.length_append]
      congr 1
      omega

/-- The same as a function. -/
def nx (ws : List (List UInt8)) (x : Nat) : Nat := (nxt ws 0)[x]?.getD 0

theorem Loc.step {ws : List (List UInt8)} {x a i : Nat} {w : List UInt8} (h : Loc ws x a i w) : Loc ws (nx ws x) a ((i + 1) % w.length) w := by
  refine ⟨h.word, Nat.mod_lt _ (by have := h.lt; omega), ?_⟩
  unfold nx
  rw [h.nxt 0, Option.getD_some, Nat.zero_add]

theorem Loc.steps {ws : List (List UInt8)} {x a i : Nat} {w : List UInt8} (h : Loc ws x a i w) : ∀ k, Loc ws (it (nx ws) k x) a ((i + k) % w.length) w
  | 0 => by rw [Nat.add_zero, Nat.mod_eq_of_lt h.lt]; exact h
  | k + 1 => by
    have := (h.steps k).step
    rw [Nat.mod_add_mod] at this
    exact this

/-- What is read from a place of the text. -/
def Rd (ws : List (List UInt8)) (x : Nat) (k : Nat) : Nat := bt ws.flatten (it (nx ws) k x)

theorem Loc.rd {ws : List (List UInt8)} {x a i : Nat} {w : List UInt8} (h : Loc ws x a i w) : Rd ws x = rd w i := by
  funext k
  unfold Rd bt Tur.rd
  rw [(h.steps k).letter]
  rfl

theorem nx_lt {ws : List (List UInt8)} {x : Nat} (h : x < ws.flatten.length) : nx ws x < ws.flatten.length := by
  obtain ⟨a, i, w, hl⟩ := loc_ex ws x h
  exact hl.step.small

theorem it_add (p : Nat → Nat) : ∀ (k m x : Nat), it p k (it p m x) = it p (m + k) x
  | 0, _, _ => rfl
  | k + 1, m, x => by
    show p (it p k (it p m x)) = it p (m + (k + 1)) x
    rw [it_add p k m x]
    rfl

theorem it_lt {ws : List (List UInt8)} {x : Nat} (h : x < ws.flatten.length) : ∀ k, it (nx ws) k x < ws.flatten.length
  | 0 => h
  | k + 1 => nx_lt (it_lt h k)

/-- One comes ahead within N letters. -/
def LtN (N : Nat) (f g : Nat → Nat) : Prop := ∃ k, k < N ∧ (∀ j, j < k → f j = g j) ∧ f k < g k

/-- Ranks by N letters. -/
def RankN (ws : List (List UInt8)) (N : Nat) (rk : Nat → Nat) : Prop := ∀ x y, x < ws.flatten.length → y < ws.flatten.length → (rk x < rk y ↔ LtN N (Rd ws x) (Rd ws y))

theorem RankN.start (ws : List (List UInt8)) : RankN ws 1 (bt ws.flatten) := by
  intro x y _ _
  constructor
  · intro h
    exact ⟨0, by omega, fun j hj => by omega, h⟩
  · rintro ⟨k, hk, _, h⟩
    have : k = 0 := by omega
    subst this
    exact h

theorem LtN.asymm {N : Nat} {f g : Nat → Nat} (h : LtN N f g) : ¬ LtN N g f := by
  obtain ⟨k, _, a, b⟩ := h
  rintro ⟨k', _, a', b'⟩
  exact Lt.asymm ⟨k, a, b⟩ ⟨k', a', b'⟩

theorem RankN.eq {ws : List (List UInt8)} {N : Nat} {rk : Nat → Nat} (h : RankN ws N rk) {x y : Nat} (hx : x < ws.flatten.length) (hy : y < ws.flatten.length) : rk x = rk y ↔ ∀ j, j < N → Rd ws x j = Rd ws y j := by
  have h1 := h x y hx hy
  have h2 := h y x hy hx
  constructor
  · intro e
    rcases parts (Rd ws x) (Rd ws y) N with p | ⟨k, a, b, c⟩
    · exact p
    · exfalso
      rcases c with c | c
      · have := h1.2 ⟨k, a, b, c⟩
        omega
      · have := h2.2 ⟨k, a, fun j hj => (b j hj).symm, c⟩
        omega
  · intro e
    rcases Nat.lt_trichotomy (rk x) (rk y) with p | p | p
    · obtain ⟨k, a, _, c⟩ := h1.1 p
      have := e k a
      omega
    · exact p
    · obtain ⟨k, a, _, c⟩ := h2.1 p
      have := e k a
      omega

theorem rd_shift (ws : List (List UInt8)) (x N k : Nat) : Rd ws (it (nx ws) N x) k = Rd ws x (N + k) := by
  unfold Rd
  rw [it_add]

/-- Twice as many letters. -/
theorem RankN.twice {ws : List (List UInt8)} {N : Nat} {rk rk' : Nat → Nat} (h : RankN ws N rk)
    (h' : ∀ x y, x < ws.flatten.length → y < ws.flatten.length → (rk' x < rk' y ↔ rk x < rk y ∨ (rk x = rk y ∧ rk (it (nx ws) N x) < rk (it (nx ws) N y)))) : RankN ws (N * 2) rk' := by
  intro x y hx hy
  rw [h' x y hx hy, h x y hx hy, h.eq hx hy, h _ _ (it_lt hx N) (it_lt hy N)]
  constructor
  · rintro (⟨k, a, b, c⟩ | ⟨e, k, a, b, c⟩)
    · exact ⟨k, by omega, b, c⟩
    · refine ⟨N + k, by omega, fun j hj => ?_, ?_⟩
      · by_cases hjN : j < N
        · exact e j hjN
        · have := b (j - N) (by omega)
          rw [rd_shift, rd_shift, show N + (j - N) = j by omega] at this
          exact this
      · rw [rd_shift, rd_shift] at c
        exact c
  · rintro ⟨k, a, b, c⟩
    by_cases hk : k < N
    · exact .inl ⟨k, hk, b, c⟩
    · refine .inr ⟨fun j hj => b j (by omega), k - N, by omega, fun j hj => ?_, ?_⟩
      · rw [rd_shift, rd_shift]
        exact b (N + j) (by omega)
      · rw [rd_shift, rd_shift, show N + (k - N) = k by omega]
        exact c

/-- Two places' words have together no more letters than there are, or are one. -/
theorem both_few : ∀ {ws : List (List UInt8)} {a b : Nat} {u v : List UInt8}, ws[a]? = some u → ws[b]? = some v → a < b → u.length + v.length ≤ ws.flatten.length := by
  intro ws
  induction ws with
  | nil => intro a b u v h; simp at h
  | cons w ws ih =>
    intro a b u v ha hb hab
    rw [List.flatten_cons, List.length_append]
    obtain ⟨b, rfl⟩ : ∃ b', b = b' + 1 := ⟨b - 1, by omega⟩
    have hb' : ws[b]? = some v := by simpa using hb
    cases a with
    | zero =>
      simp at ha
      subst ha
      have := (List.sublist_flatten_of_mem (List.mem_of_getElem? hb')).length_le
      omega
    | succ a =>
      have := ih (by simpa using ha) hb' (by omega)
      omega

/-- N letters are enough. -/
theorem enough {ws : List (List UInt8)} {N x y : Nat} (hN : ws.flatten.length ≤ N) (hx : x < ws.flatten.length) (hy : y < ws.flatten.length) (h : ¬ LtN N (Rd ws x) (Rd ws y)) : ¬ Lt (Rd ws x) (Rd ws y) := by
  rintro ⟨k, a, b⟩
  by_cases hk : k < N
  · exact h ⟨k, hk, a, b⟩
  · obtain ⟨a1, i, u, l1⟩ := loc_ex ws x hx
    obtain ⟨a2, j, v, l2⟩ := loc_ex ws y hy
    have hu := l1.lt
    have hv := l2.lt
    have p1 := rd_per u i
    have p2 := rd_per v j
    rw [← l1.rd] at p1
    rw [← l2.rd] at p2
    have hsame : Rd ws x = Rd ws y := by
      rcases Nat.lt_trichotomy a1 a2 with e | e | e
      · have := both_few l1.word l2.word e
        exact same_of (by omega) (by omega) p1 p2 (fun m hm => a m (by omega))
      · subst e
        have e2 : u = v := by
          have := l1.word
          rw [l2.word] at this
          simpa using this.symm
        subst e2
        have := (List.sublist_flatten_of_mem (List.mem_of_getElem? l1.word)).length_le
        exact same_one (by omega) p1 p2 (fun m hm => a m (by omega))
      · have := both_few l2.word l1.word e
        exact same_of (by omega) (by omega) p1 p2 (fun m hm => a m (by omega))
    rw [hsame] at b
    exact Nat.lt_irrefl _ b

/-! ### All places -/
theorem range_split (a b : Nat) : List.range (a + b) = List.range a ++ (List.range b).map fun x => a + x := by
  apply List.ext_getElem
  · simp
  · intro i h1 h2
    simp only [List.length_range] at h1
    by_cases h : i < a
    · rw [List.getElem_append_left (by simpa using h)]
      simp
    · rw [List.getElem_append_right (by simp; omega)]
      simp
      omega

theorem map_flat {β : Type} : ∀ (ws : List (List UInt8)) (F : Nat → β) (G : List UInt8 → Nat → β), (∀ a i w, ws[a]? = some w → i < w.length → F ((ws.take a).flatten.length + i) = G w i) →
    (List.range ws.flatten.length).map F = ws.flatMap fun w => (List.range w.length).map (G w)
  | [], _, _, _ => rfl
  | w :: ws, F, G, h => by
    rw [List.flatten_cons, List.length_append, range_split, List.map_append, List.map_map, List.flatMap_cons]
    congr 1
    · apply List.map_congr_left
      intro i hi
      have := h 0 i w rfl (List.mem_range.1 hi)
      simpa using this
    · refine map_flat ws (F ∘ fun x => w.length + x) G (fun a i v hv hi => ?_)
      have := h (a + 1) i v (by simpa using hv) hi
      rw [List.take_succ_cons, List.flatten_cons, List.length_append, Nat.add_assoc] at this
      exact this

theorem rot_perm {β : Type} (m : Nat) (g : Nat → β) : ((List.range m).map fun i => g ((i + 1) % m)).Perm ((List.range m).map g) := by
  cases m with
  | zero => exact .refl _
  | succ m =>
    have e1 : ((List.range (m + 1)).map fun i => g ((i + 1) % (m + 1))) = ((List.range m).map fun i => g (i + 1)) ++ [g 0] := by
      rw [List.range_succ, List.map_append]
      congr 1
      · apply List.map_congr_left
        intro i hi
        rw [List.mem_range] at hi
        rw [Nat.mod_eq_of_lt (by omega)]
      · simp
    have e2 : (List.range (m + 1)).map g = [g 0] ++ (List.range m).map fun i => g (i + 1) := by
      rw [List.range_succ_eq_map, List.map_cons, List.map_map]
      rfl
    rw [e1, e2]
    exact List.perm_append_comm

theorem ah_next {w : List UInt8} {i : Nat} (h : i < w.length) : ah w ((i + 1) % w.length) = w[i]?.getD 0 := by
  unfold ah
  congr 2
  by_cases h1 : i + 1 < w.length
  · rw [Nat.mod_eq_of_lt h1, show i + 1 + w.length - 1 = i + w.length by omega, Nat.add_mod_right, Nat.mod_eq_of_lt h]
  · have : i + 1 = w.length := by omega
    rw [this, Nat.mod_self, Nat.zero_add, Nat.mod_eq_of_lt (by omega)]
    omega

theorem places_perm (ws : List (List UInt8)) : ((List.range ws.flatten.length).map fun x => (Rd ws (nx ws x), ws.flatten[x]?.getD 0)).Perm ((places ws).map row) := by
  have e1 := map_flat ws (fun x => (Rd ws (nx ws x), ws.flatten[x]?.getD 0)) (fun w i => row (w, (i + 1) % w.length)) (fun a i w hw hi => by
    have l : Loc ws ((ws.take a).flatten.length + i) a i w := ⟨hw, hi, rfl⟩
    simp only [row, l.step.rd, l.letter, ah_next hi])
  rw [e1]
  unfold places
  rw [List.map_flatMap]
  clear e1
  induction ws with
  | nil => exact .refl _
  | cons w ws ih =>
    rw [List.flatMap_cons, List.flatMap_cons]
    refine List.Perm.append ?_ ih
    rw [List.map_map]
    exact rot_perm w.length (fun i => row (w, i))

/-- Sorted by their ranks, the letters of the places are the text, turned. -/
theorem turned_rows {ws : List (List UInt8)} {N : Nat} {rk : Nat → Nat} (hN : ws.flatten.length ≤ N) (hr : RankN ws N rk) {P : List Nat} (hP : P.Perm (List.range ws.flatten.length)) (hs : P.Pairwise fun x y => ¬ rk (nx ws y) < rk (nx ws x)) :
    Turned ws (P.map fun x => ws.flatten[x]?.getD 0) := by
  have hlt : ∀ x ∈ P, x < ws.flatten.length := fun x hx => List.mem_range.1 (hP.mem_iff.1 hx)
  refine ⟨P.map fun x => (Rd ws (nx ws x), ws.flatten[x]?.getD 0), (hP.map _).trans (places_perm ws), ?_, by rw [List.map_map]; rfl⟩
  unfold Srt
  rw [List.pairwise_map]
  refine List.Pairwise.imp_of_mem (fun {x y} hx hy h => ?_) hs
  refine enough hN (nx_lt (hlt y hy)) (nx_lt (hlt x hx)) fun h2 => h ?_
  exact (hr _ _ (nx_lt (hlt y hy)) (nx_lt (hlt x hx))).2 h2
end Go.Proofs.YtkiindkoiomieaaGreatDoor.Tur
end

section
/-
  The walks of strings.Builder's copyCheck and WriteByte.
-/
namespace Go.Proofs.YtkiindkoiomieaaGreatDoor
open Go.RowKit

theorem Tryz.info83 : (Tryz.prog.info? 83).map (·.size) = some 2 := by kernel_rfl
theorem Tryz.lies83 : liesAt Tryz.prog Tryz.prog.depth 83 (2 / Tryz.prog.cellsOf 83) 0 83 1 = true := by kernel_rfl
theorem Tryz.info5 : (Tryz.prog.info? 5).map (fun i => (i.zero, i.size, i.bytes)) = some (some (.int .u8 0), 1, 1) := by kernel_rfl

set_option maxHeartbeats 400000 in
set_option maxRecDepth 100000 in
theorem check_used (b : Nat) (w : World) (h0 : w.cell? ⟨b, 0, none⟩ = some (.pointer (some ⟨b, 0, none⟩))) :
    Calls Tryz.prog 98 #[.pointer (some ⟨b, 0, none⟩)] w fun e w' => e = .returned (.tuple #[]) ∧ w' = w := by
  obtain ⟨j, hj, _⟩ := Option.map_eq_some_iff.1 Tryz.info83
  go_enter Tryz.func98, Tryz.ntmps98
  go_wp2
  rw [Lib.run_neq_ptr_same w _ Tryz.underlying80 hj]
  go_wp2
  go_end0
  exact ⟨rfl, rfl⟩

set_option maxHeartbeats 400000 in
set_option maxRecDepth 100000 in
theorem check_fresh (b : Nat) (w : World) (h0 : w.cell? ⟨b, 0, none⟩ = some (.pointer none)) (hsh : w.shape? b = some (83, 2)) (hfz : w.frozen? ⟨b, 0, none⟩ = false) :
    Calls Tryz.prog 98 #[.pointer (some ⟨b, 0, none⟩)] w fun e w' => e = .returned (.tuple #[]) ∧ w' = w.setCell ⟨b, 0, none⟩ (.pointer (some ⟨b, 0, none⟩)) := by
  obtain ⟨j, hj, hjs⟩ := Option.map_eq_some_iff.1 Tryz.info83
  go_enter Tryz.func98, Tryz.ntmps98
  go_wp2
  rw [Lib.run_to_unsafe w ⟨b, 0, none⟩ Tryz.underlying80 Tryz.underlying134 hj (by rw [hjs]; decide) hsh (Nat.zero_lt_succ 1)]
  simp only [Result.andThen]
  rw [Oper.upon_value]
  go_wp2
  rw [run_callFunc_extern Tryz.func125 (by kernel_rfl) (by kernel_rfl) (by kernel_rfl) (e := Extern.AbiNoEscape.same) (by kernel_rfl), Lib.run_noEscape]
  simp only [Result.andThen]
  rw [Oper.upon_value]
  go_wp2
  rw [Lib.run_from_unsafe w ⟨b, 0, none⟩ Tryz.underlying134 Tryz.underlying80 hj hsh Tryz.lies83]
  simp only [Result.andThen]
  rw [Oper.upon_value]
  go_wp2
  go_end0
  exact ⟨rfl, rfl⟩

theorem check_any (B b : Nat) (bs : List Value) (w : World) (h : Lib.IsBuilder 83 5 B b bs w) :
    Calls Tryz.prog 98 #[.pointer (some ⟨b, 0, none⟩)] w fun e w' => e = .returned (.tuple #[]) ∧ Lib.BuilderAt 83 5 B b (.pointer (some ⟨b, 0, none⟩)) bs w' ∧ Below B w w' := by
  rcases h with h | h
  · refine (check_fresh b w h.cell0 h.shape h.frozen0).mono ?_
    rintro e w' ⟨rfl, rfl⟩
    exact ⟨rfl, h.used _, (Below.refl B w).setCell (p := ⟨b, 0, none⟩) h.1 _⟩
  · refine (check_used b w h.cell0).mono ?_
    rintro e w' ⟨rfl, rfl⟩
    exact ⟨rfl, h, Below.refl B _⟩

set_option maxHeartbeats 1000000 in
set_option maxRecDepth 100000 in
theorem write_any (B b : Nat) (bs : List Value) (c : Int) (w : World) (h : Lib.IsBuilder 83 5 B b bs w) (hlen : bs.length ≤ 1000000) (hBw : B ≤ w.heap.size) :
    Calls Tryz.prog 63 #[.pointer (some ⟨b, 0, none⟩), .int .u8 c] w fun e w' => e = .returned .nilIface ∧ Lib.BuilderAt 83 5 B b (.pointer (some ⟨b, 0, none⟩)) (bs ++ [.int .u8 c]) w' ∧ Below B w w' := by
  obtain ⟨i0, hi, hz0, hz1, hz2⟩ := info_parts Tryz.info5
  go_enter Tryz.func63, Tryz.ntmps63
  go_wp2_with (go_at_call 98; refine (check_any B b bs _ h).mono ?_)
  rintro e w1 ⟨rfl, h1, hb1⟩
  obtain ⟨hB, v, hbk, hown, hne⟩ := h1
  have c1 : w1.cell? ⟨b, 1, none⟩ = some v := by rw [Lib.cell_of_heap hbk]; rfl
  go_wp2_with (at_builtin; refine wpList_append_own _ rfl _ _ 81 rfl B 5 i0 (.int .u8 0) 1 1 Tryz.underlying81 hi hz0 hz1 hz2 rfl (by decide) _ _ _ rfl (hown.alloc _) ⟨w1.heap.size, 0, none⟩ 1 1 [.int .u8 c] rfl rfl (cell_one_new _ _ _) (fun x hx => by simp at hx; subst hx; rfl) (by unfold maxLen; omega) (by omega) (by have := hb1.size; simp; omega) ?_)
  intro v' w2 hown' hgrow _
  have hlt : b < w1.heap.size := by
    rcases Nat.lt_or_ge b w1.heap.size with h' | h'
    · exact h'
    · simp [Array.getElem?_eq_none h'] at hbk
  have hb2 : w2.heap[b]? = some (.cells #[.pointer (some ⟨b, 0, none⟩), v] 83 (0, 0)) := by
    rw [hgrow.block b (by simp; omega) (fun e => hne e.symm), Lib.alloc_old w1 _ b hlt]
    exact hbk
  have d1 : w2.cell? ⟨b, 1, none⟩ = some v := by rw [Lib.cell_of_heap hb2]; rfl
  have f1 : w2.frozen? ⟨b, 1, none⟩ = false := Lib.frozen_of_heap hb2 1
  obtain ⟨g, cap, rfl⟩ : ∃ g cap, v' = .slice (some ⟨g, 0, none⟩) (bs.length + 1) cap := by
    rcases hown'.2 with ⟨_, h0⟩ | ⟨g, cap, cur, hv, _⟩
    · omega
    · exact ⟨g, cap, hv⟩
  go_wp2
  go_ret
  refine ⟨rfl, ?_, ?_⟩
  · exact Lib.BuilderAt.put hB hb2 (bs' := bs ++ [.int .u8 c]) (by simpa using hown') (by decide)
  · exact ((hb1.alloc (by have := hb1.size; omega) _).grown hgrow (by have := hb1.size; simp; omega) (fun k hk => (hown.lt k hk).1)).setCell (p := ⟨b, 1, none⟩) hB _
end Go.Proofs.YtkiindkoiomieaaGreatDoor
end

section
/-
  P5: a list of 256 bytes in a block: sortedBytes, layFirst.
-/
namespace Go.Proofs.YtkiindkoiomieaaGreatDoor
open Go.RowKit

/-- Bytes as cells. -/
def cellsB (l : List UInt8) : Array Value := (l.map fun b => Value.int .u8 b.toNat).toArray
/-- The first k bytes by their worth, zeros behind them. -/
def part (k : Nat) : List UInt8 := (List.range 256).map fun i => if i < k then UInt8.ofNat i else 0

theorem cellsB_size (l : List UInt8) : (cellsB l).size = l.length := by simp [cellsB]
theorem part_length (k : Nat) : (part k).length = 256 := by simp [part]
theorem cellsB_at {l : List UInt8} {j : Nat} {c : UInt8} (h : l[j]? = some c) : (cellsB l)[j]? = some (.int .u8 c.toNat) := by simp [cellsB, h]
theorem cellsB_set (l : List UInt8) (k : Nat) (c : UInt8) : (cellsB l).setIfInBounds k (.int .u8 c.toNat) = cellsB (l.set k c) := by
  simp [cellsB, List.map_set]
theorem part_set {k : Nat} (h : k < 256) : (part k).set k (UInt8.ofNat k) = part (k + 1) := by
  apply List.ext_getElem?
  intro i
  rw [List.getElem?_set]
  by_cases hi : k = i
  · subst hi
    simp [part, h]
  · rw [if_neg hi]
    by_cases h2 : i < 256
    · simp only [part, List.getElem?_map, List.getElem?_range h2, Option.map_some, Option.some.injEq]
      by_cases h3 : i < k
      · rw [if_pos h3, if_pos (by omega)]
      · rw [if_neg h3, if_neg (by omega)]
    · have e : ∀ n, (part n)[i]? = none := fun n => List.getElem?_eq_none (by rw [part_length]; omega)
      rw [e, e]

theorem bl_cell {w : World} {g : Nat} {l : List UInt8} {t : TypeId} {fr : Nat × Nat} (h : w.heap[g]? = some (.cells (cellsB l) t fr)) {j : Nat} {c : UInt8} (hc : l[j]? = some c) : w.cell? ⟨g, j, none⟩ = some (.int .u8 c.toNat) := by
  rw [cell_of_row w g j _ t fr h]
  exact cellsB_at hc

theorem Tryz.zero88 : (Tryz.prog.info? 88).bind (fun i => i.zero) = some (.agg (cellsB (part 0))) := by kernel_rfl
theorem Tryz.size88 : (Tryz.prog.info? 88).map (·.size) = some 256 := by kernel_rfl
theorem zv71 (w : World) : Sem.run Tryz.prog (zeroValue 88) w = .ok (.agg (cellsB (part 0))) w := by
  have h := Tryz.zero88
  cases hi : Tryz.prog.info? 88 with
  | none => rw [hi] at h; cases h
  | some i =>
    rw [hi] at h
    have h : i.zero = some (.agg (cellsB (part 0))) := h
    simp [zeroValue, typeInfo, hi, h, go_sem]

theorem all_one (l : List UInt8) : (cellsB l).all (·.oneCell') = true := by
  simp [cellsB, Value.oneCell']

set_option maxHeartbeats 1000000 in
set_option maxRecDepth 100000 in
theorem sorted_any (w : World) :
    Calls Tryz.prog 65 #[] w fun e w' => e = .returned (.agg (cellsB (part 256))) ∧ Below w.heap.size w w' := by
  have hz := zv71
  go_enter Tryz.func65, Tryz.ntmps65
  go_wp2
  clear hz
  go_loopw [3] (fun i wr => ∃ k : Nat, k ≤ 256 ∧ i = .int .i64 k ∧ wr.heap[w.heap.size]? = some (.cells (cellsB (part 0)) 88 (0, 0)) ∧ wr.heap[w.heap.size + 1]? = some (.cells (cellsB (part k)) 88 (0, 0)) ∧ Below w.heap.size w wr) (fun i _ => 256 - (intOf i).toNat)
  case atStart => exact ⟨0, by omega, rfl, heap_alloc2_old _ _ _, heap_alloc2_new _ _ _, ((Below.refl _ _).alloc (Nat.le_refl _) _).alloc (by simp) _⟩
  case round =>
    obtain ⟨k, hk, rfl, hz0, hc, hbx⟩ := hrel
    by_cases hlt : k < 256
    · obtain ⟨c, hcc⟩ : ∃ c, (part k)[k]? = some c := ⟨_, List.getElem?_eq_getElem (by rw [part_length]; exact hlt)⟩
      have hcell := bl_cell hc hcc
      have hfr := frozen_of_row wr (w.heap.size + 1) k _ 88 hc
      have HZ := hide hz0
      have HC := hide hc
      clear hz0 hc hcc
      go_wp2
      go_roundw
      case rel =>
        refine ⟨k + 1, by omega, by go_num, ?_, ?_, hbx.setCell (p := ⟨w.heap.size + 1, k, none⟩) (by simp) _⟩
        · rw [heap_setCell_other _ _ _ _ (by simp)]
          exact HZ.out
        · rw [heap_setCell_same _ _ _ _ _ _ HC.out]
          have e : (k : Int) = ((UInt8.ofNat k).toNat : Int) := by simp; omega
          rw [e, cellsB_set, part_set hlt]
      case measure => simp [intOf]; omega
    · have hk2 : k = 256 := by omega
      subst hk2
      have HZ := hide hz0
      have HC := hide hc
      clear hz0 hc
      go_wp2_with (first
        | (refine wpList_load_row rfl 88 (.tmp 1) rfl (w.heap.size + 1) rfl 88 _ (0, 0) _ HC.out Tryz.underlying88 rfl (by rw [cellsB_size, part_length]; exact Tryz.size88) ?_)
        | (refine wpList_store_row rfl 88 (.tmp 0) (.tmp 11) rfl w.heap.size (cellsB (part 256)) rfl rfl 88 _ HZ.out (by rw [cellsB_size, part_length]; exact Tryz.size88) (by rw [cellsB_size, cellsB_size, part_length, part_length]) (all_one _) ?_))
      refine bodyPost_ret (v := .agg (cellsB (part 256))) ?_ rfl ⟨rfl, below_setRow hbx (Nat.le_refl _) _⟩
      exact results_cell_row rfl _ _ w.heap.size 88 _ (0, 0) _ rfl (setRow_heap wr _ _ _ _ _ HZ.out) Tryz.underlying88 rfl (by rw [cellsB_size, part_length]; exact Tryz.size88)

/-- copy within a row that is known whole, as one step of a region that draws: what the world is behind it. -/
theorem step_copy_row {P : Program} {ops : Array Oper} {o : Oper} {a : Act} {w : World} {K : Act → World → Prop} {Q : Exit → Act → World → Prop} {E : Prop} (hgd : o.guard = none) (d s : Operand) (dT sT : TypeId)
    (ho : o.op = .call { callee := .builtin .copy, args := #[d, s], argTypes := #[dT, sT] }) (elem : TypeId) (hu : P.underlying dT = some (.slice elem)) (hsz : (P.info? elem).map (·.size) = some 1)
    (g off soff n dCap sCap : Nat) (hd : a.eval d = .slice (some ⟨g, off, none⟩) n dCap) (hs : a.eval s = .slice (some ⟨g, soff, none⟩) n sCap)
    (cur : List Value) (t : TypeId) (hg : w.heap[g]? = some (.cells cur.toArray t (0, 0)))
    (hfit : off + n ≤ cur.length) (hsf : soff + n ≤ cur.length) (h1 : ∀ v ∈ cur, v.oneCell' = true)
    (X : Array Value) (hX : X = (splice cur off ((cur.drop soff).take n)).toArray) (h : K (a.put o.dst (goInt n)) (w.setRow g X)) :
    if Region.wanted o (yielded ops a.tmps) = true then Oper.wp P o a w K Q else E := by
  have hw : Region.wanted o (yielded ops a.tmps) = true := by simp [Region.wanted, hgd]
  rw [if_pos hw]
  have hl : ((cur.drop soff).take n).length = n := by simp; omega
  have hrun := run_copy_row (P := P) w dT sT o.type elem g off n dCap ⟨g, soff, none⟩ n sCap cur.toArray t ((cur.drop soff).take n) hu hsz hg (by rw [hl]; exact (Nat.min_self n).symm)
    (fun j v hv => by
      have hj : j < n := by have := (List.getElem?_eq_some_iff.1 hv).1; omega
      rw [Addr.add_lit, cell_of_row w g _ _ t _ hg]
      simpa [hj] using hv) (by rw [hl]; simpa using hfit) (fun v hv => h1 v (List.mem_of_mem_drop (List.mem_of_mem_take hv)))
  rw [hl] at hrun
  have e : (cur.toArray.toList.take off ++ (cur.drop soff).take n ++ cur.toArray.toList.drop (off + n)).toArray = (splice cur off ((cur.drop soff).take n)).toArray := by
    rw [splice, hl, List.append_assoc]
  rw [e, ← hX] at hrun
  unfold Oper.wp
  simp [execOp, ho, resolve, invoke, builtin, hd, hs, hrun, Result.andThen]
  exact h

/-- The byte at place p is laid first. -/
def mtf (l : List UInt8) (p : Nat) : List UInt8 := (l[p]?.getD 0) :: (l.take p ++ l.drop (p + 1))

theorem mtf_length {l : List UInt8} {p : Nat} (h : p < l.length) : (mtf l p).length = l.length := by simp [mtf]; omega

theorem Tryz.size5 : (Tryz.prog.info? 5).map (·.size) = some 1 := by kernel_rfl

theorem mtf_cells {l : List UInt8} {p : Nat} {c : UInt8} (h : l[p]? = some c) :
    (splice (cellsB l).toList 1 (((cellsB l).toList.drop 0).take p)).toArray.setIfInBounds 0 (.int .u8 c.toNat) = cellsB (mtf l p) := by
  have hp : p < l.length := (List.getElem?_eq_some_iff.1 h).1
  obtain ⟨x, r, rfl⟩ : ∃ x r, l = x :: r := by
    cases l with
    | nil => simp at hp
    | cons x r => exact ⟨x, r, rfl⟩
  simp at hp
  simp [splice, cellsB, mtf, h, List.map_take, List.map_drop, Nat.min_eq_left (by omega : p ≤ r.length + 1), Nat.add_comm 1 p]

set_option maxHeartbeats 1000000 in
set_option maxRecDepth 100000 in
theorem lay_any (b p : Nat) (l : List UInt8) (w : World) (hl : l.length = 256) (hp : p < 256) (hb : w.heap[b]? = some (.cells (cellsB l) 88 (0, 0))) :
    Calls Tryz.prog 67 #[.pointer (some ⟨b, 0, none⟩), .int .i64 p] w fun e w' => e = .returned (.tuple #[]) ∧ w'.heap[b]? = some (.cells (cellsB (mtf l p)) 88 (0, 0)) ∧ w.grownBy w' (some b) := by
  obtain ⟨c, hc⟩ : ∃ c, l[p]? = some c := ⟨_, List.getElem?_eq_getElem (by omega)⟩
  have hcell := bl_cell hb hc
  have HB := hide hb
  have hcl : (cellsB l).toList.length = 256 := by simp [cellsB, hl]
  obtain ⟨C, hC⟩ : ∃ C, (cellsB l).toList = C := ⟨_, rfl⟩
  have HC := hide hC
  have hb' : w.heap[b]? = some (.cells C.toArray 88 (0, 0)) := by rw [hb, ← hC]
  have hC1 : ∀ v ∈ C, v.oneCell' = true := by
    rw [← hC]
    intro v hv
    simp [cellsB] at hv
    obtain ⟨a, _, rfl⟩ := hv
    rfl
  rw [hC] at hcl
  have H1 := hide hC1
  have HB' := hide hb'
  have hwr : IntKind.i64.wrap ((p : Int) + 1) = (p : Int) + 1 := IntWalk.i64_in _ (by omega)
  have hk1 : (1 : Int) ≤ (p : Int) + 1 := by omega
  have hk2 : (p : Int) + 1 ≤ 256 := by omega
  have hk3 : (p : Int) ≤ 256 := by omega
  obtain ⟨X, hX⟩ : ∃ X, X = (splice C 1 ((C.drop 0).take p)).toArray := ⟨_, rfl⟩
  have hXs : 0 < X.size := by rw [hX, List.size_toArray, length_splice _ _ _ (by simp; omega)]; omega
  have hrow : ∀ W : World, W.heap = w.heap → (W.setRow b X).heap[b]? = some (.cells X 88 (0, 0)) := fun W hW => setRow_heap W b C.toArray X 88 _ (by rw [hW]; exact hb')
  have hc0 : (w.drew.setRow b X).cell? ⟨b, 0, none⟩ = some X[0] := by
    rw [cell_of_row _ b 0 X 88 _ (hrow w.drew rfl)]
    exact Array.getElem?_eq_getElem hXs
  have hf0 : (w.drew.setRow b X).frozen? ⟨b, 0, none⟩ = false := frozen_of_row _ b 0 X 88 (hrow w.drew rfl)
  have hend : ((w.drew.setRow b X).setCell ⟨b, 0, none⟩ (.int .u8 c.toNat)).heap[b]? = some (.cells (cellsB (mtf l p)) 88 (0, 0)) := by
    rw [heap_setCell_same _ b 0 X 88 _ (hrow w.drew rfl), hX, ← hC, mtf_cells hc]
  have hgr : w.grownBy ((w.drew.setRow b X).setCell ⟨b, 0, none⟩ (.int .u8 c.toNat)) (some b) := by
    refine ⟨rfl, rfl, rfl, by simp, fun k hk hne => ?_⟩
    have hkb : k ≠ b := fun e => hne (by rw [e])
    rw [heap_setCell_other _ _ _ _ (by exact hkb), setRow_other _ _ _ _ hkb]
    rfl
  have HX := hide hX
  have HE := hide hend
  have HR := hide hgr
  clear hb hc hC hC1 hb' hX hrow hend hgr
  go_enter Tryz.func67, Tryz.ntmps67
  go_wp2
  go_region_law (refine step_copy_row rfl (.tmp 14) (.tmp 18) 81 81 rfl 5 Tryz.underlying81 Tryz.size5 b 1 0 p 255 256 (by simp [Act.eval, Act.put]) (by simp [Act.eval, Act.put]) C 88 HB'.out (by omega) (by omega) H1.out X HX.out ?_)
  go_wp2
  go_end0
  exact ⟨rfl, HE.out, HR.out⟩
end Go.Proofs.YtkiindkoiomieaaGreatDoor
end


/-
  Plain mathematics of P4: the rank of a pair among different ones. Nothing of the program.
-/
import Derived.Test.YtkiindkoiomieaaNumRow
namespace Go.Proofs.Ytkiindkoiomieaa
open Go.RowKit Go.Lib Go.Sort

theorem ltP_iff (x y : Int × Int) : ltP x y = true ↔ x.1 < y.1 ∨ (x.1 = y.1 ∧ x.2 < y.2) := by
  unfold ltP
  simp

theorem ltP_false (x y : Int × Int) : ltP x y = false ↔ y.1 < x.1 ∨ (y.1 = x.1 ∧ y.2 ≤ x.2) := by
  rw [← Bool.not_eq_true, ltP_iff]
  omega

/-- Sorted. -/
def SrtP (d : Array (Int × Int)) : Prop := ∀ i j, i < j → j < d.size → ltP d[j]! d[i]! = false

theorem pair_ne {x y : Int × Int} (h : x ≠ y) : x.1 ≠ y.1 ∨ x.2 ≠ y.2 := by
  rcases Decidable.em (x.1 = y.1) with h1 | h1
  · exact .inr fun h2 => h (Prod.ext h1 h2)
  · exact .inl h1

theorem compact_strict {d : Array (Int × Int)} (h : SrtP d) : (compactUpTo d d.size).Pairwise fun a b => ltP a b = true := by
  unfold compactUpTo
  rw [List.pairwise_map]
  refine List.Pairwise.imp_of_mem ?_ (List.pairwise_lt_range.filter _)
  intro i j hi hj hij
  have hj1 := (List.mem_filter.1 hj).2
  have hj2 : j < d.size := List.mem_range.1 (List.mem_filter.1 hj).1
  simp only [keeps, decide_eq_true_eq] at hj1
  have hne : d[j]! ≠ d[j - 1]! := by
    rcases hj1 with h0 | h0
    · omega
    · exact h0
  have a := h (j - 1) j (by omega) hj2
  rw [ltP_false] at a
  have b := pair_ne hne
  rw [ltP_iff]
  by_cases hij' : i = j - 1
  · rw [hij']
    omega
  · have c := h i (j - 1) (by omega) (by omega)
    rw [ltP_false] at c
    omega

theorem compact_mem (d : Array (Int × Int)) : ∀ j, j < d.size → d[j]! ∈ compactUpTo d d.size := by
  intro j
  induction j with
  | zero =>
    intro hj
    unfold compactUpTo
    exact List.mem_map.2 ⟨0, List.mem_filter.2 ⟨List.mem_range.2 hj, by simp [keeps]⟩, rfl⟩
  | succ j ih =>
    intro hj
    by_cases hk : keeps d (j + 1) = true
    · unfold compactUpTo
      exact List.mem_map.2 ⟨j + 1, List.mem_filter.2 ⟨List.mem_range.2 hj, hk⟩, rfl⟩
    · have : d[j + 1]! = d[j]! := by
        simp only [keeps, decide_eq_true_eq] at hk
        have h2 : ¬ (d[j + 1]! ≠ d[j + 1 - 1]!) := fun h => hk (.inr h)
        exact Classical.not_not.1 h2
      rw [this]
      exact ih (by omega)

theorem compact_length (d : Array (Int × Int)) : (compactUpTo d d.size).length ≤ d.size := by
  unfold compactUpTo
  rw [List.length_map]
  have := List.length_filter_le (keeps d) (List.range d.size)
  simpa using this

theorem mem_get {d d' : Array (Int × Int)} (hp : d'.toList.Perm d.toList) {i : Nat} (hi : i < d.size) : ∃ j, j < d'.size ∧ d'[j]! = d[i]! := by
  have h1 : d[i]! ∈ d.toList := by
    rw [getElem!_pos d i hi]
    simp
  have h2 := hp.mem_iff.2 h1
  obtain ⟨j, hj, e⟩ := List.mem_iff_getElem.1 h2
  have hj' : j < d'.size := by simpa using hj
  exact ⟨j, hj', by rw [getElem!_pos d' j hj']; simpa using e⟩

theorem idx_strict {c : List (Int × Int)} (hc : c.Pairwise fun a b => ltP a b = true) {x y : Int × Int} (hx : x ∈ c) (hy : y ∈ c) : c.idxOf x < c.idxOf y ↔ ltP x y = true := by
  have lx := List.idxOf_lt_length_of_mem hx
  have ly := List.idxOf_lt_length_of_mem hy
  have ex : c[c.idxOf x] = x := List.getElem_idxOf lx
  have ey : c[c.idxOf y] = y := List.getElem_idxOf ly
  have hp := List.pairwise_iff_getElem.1 hc
  constructor
  · intro h
    have := hp _ _ lx ly h
    rwa [ex, ey] at this
  · intro h
    rcases Nat.lt_trichotomy (c.idxOf x) (c.idxOf y) with h1 | h1 | h1
    · exact h1
    · have e : x = y := by
        rw [← ex, ← ey]
        simp only [h1]
      subst e
      rw [ltP_iff] at h
      omega
    · have := hp _ _ ly lx h1
      rw [ex, ey] at this
      rw [ltP_iff] at this h
      omega

/-- Ranks: how many different ones stand ahead. -/
structure Ranks (d : Array (Int × Int)) (f : Nat → Nat) : Prop where
  lt : ∀ i, i < d.size → f i < d.size
  ord : ∀ i j, i < d.size → j < d.size → (f i < f j ↔ ltP d[i]! d[j]! = true)

theorem ranks_of {d d' : Array (Int × Int)} (hs : d'.size = d.size) (hp : d'.toList.Perm d.toList) (h : SrtP d') : Ranks d fun i => (compactUpTo d' d'.size).idxOf d[i]! := by
  have mem : ∀ i, i < d.size → d[i]! ∈ compactUpTo d' d'.size := fun i hi => by
    obtain ⟨j, hj, e⟩ := mem_get hp hi
    rw [← e]
    exact compact_mem d' j hj
  refine ⟨fun i hi => ?_, fun i j hi hj => idx_strict (compact_strict h) (mem i hi) (mem j hj)⟩
  have := List.idxOf_lt_length_of_mem (mem i hi)
  have := compact_length d'
  omega
end Go.Proofs.Ytkiindkoiomieaa

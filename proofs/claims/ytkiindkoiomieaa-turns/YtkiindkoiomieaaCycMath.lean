/-
  Plain mathematics of P4: the cycles, gone through one by one. Nothing of the program.
-/
import Derived.Test.YtkiindkoiomieaaBackMath
namespace Go.Proofs.Ytkiindkoiomieaa.Tur
open Duv

/-- All rows of these cycles. -/
def allRows (p : Nat → Nat) (cs : List (Nat × Nat)) : List Nat := cs.flatMap (rows p)

theorem allRows_cons (p : Nat → Nat) (c : Nat × Nat) (cs : List (Nat × Nat)) : allRows p (c :: cs) = rows p c ++ allRows p cs := by simp [allRows]

theorem mem_rows {p : Nat → Nat} {f j r : Nat} : r ∈ rows p (f, j) ↔ ∃ i, i < j ∧ it p i f = r := by
  simp [rows]

theorem rows_next (p : Nat → Nat) (f j : Nat) : rows p (f, j + 1) = rows p (f, j) ++ [it p j f] := by
  simp [rows, List.range_succ]

theorem rows_length (p : Nat → Nat) (f j : Nat) : (rows p (f, j)).length = j := by simp [rows]

theorem word_next (t : List UInt8) (p : Nat → Nat) (f j : Nat) : word t p (f, j + 1) = (t[it p j f]?.getD 0) :: word t p (f, j) := by
  unfold word
  simp only
  rw [List.range_succ_eq_map, List.map_cons, List.map_map]
  congr 1
  apply List.map_congr_left
  intro i _
  simp only [Function.comp_apply]
  congr 3
  omega

/-- Rows below f have been met, in these cycles. -/
structure Met (t : List UInt8) (p : Nat → Nat) (cs : List (Nat × Nat)) (f : Nat) : Prop where
  cyc : ∀ c ∈ cs, Cyc t p c
  down : cs.Pairwise fun c d => d.1 < c.1
  nodup : (allRows p cs).Nodup
  all : ∀ r, r < f → r ∈ allRows p cs
  lt : ∀ c ∈ cs, c.1 < f

theorem Met.start (t : List UInt8) (p : Nat → Nat) : Met t p [] 0 :=
  ⟨by simp, List.Pairwise.nil, by simp [allRows], fun r h => by omega, by simp⟩

theorem Met.small {t : List UInt8} {p : Nat → Nat} (hA : Ahead t p) {cs : List (Nat × Nat)} {f : Nat} (h : Met t p cs f) {r : Nat} (hr : r ∈ allRows p cs) : r < t.length := by
  obtain ⟨c, hc, hr⟩ := List.mem_flatMap.1 hr
  obtain ⟨j, _, rfl⟩ := List.mem_map.1 hr
  exact hA.it_lt (h.cyc c hc).lt _

/-- j steps from f on. -/
structure Steps (t : List UInt8) (p : Nat → Nat) (cs : List (Nat × Nat)) (f j : Nat) : Prop where
  nodup : (rows p (f, j) ++ allRows p cs).Nodup
  lt : f < t.length

theorem Steps.start {t : List UInt8} {p : Nat → Nat} {cs : List (Nat × Nat)} {f : Nat} (h : Met t p cs f) (hf : f < t.length) : Steps t p cs f 0 :=
  ⟨by simpa [rows] using h.nodup, hf⟩

theorem Steps.few {t : List UInt8} {p : Nat → Nat} (hA : Ahead t p) {cs : List (Nat × Nat)} {f j : Nat} (hm : Met t p cs f) (h : Steps t p cs f j) : j + (allRows p cs).length ≤ t.length := by
  have := List.Nodup.length_le_of_subset (l₂ := List.range t.length) h.nodup (fun r hr => by
    rw [List.mem_range]
    rcases List.mem_append.1 hr with hr | hr
    · obtain ⟨i, _, rfl⟩ := mem_rows.1 hr
      exact hA.it_lt h.lt _
    · exact hm.small hA hr)
  rw [List.length_append, rows_length, List.length_range] at this
  exact this

theorem Steps.next {t : List UInt8} {p : Nat → Nat} {cs : List (Nat × Nat)} {f j : Nat} (h : Steps t p cs f j) (hn : it p j f ∉ rows p (f, j) ++ allRows p cs) : Steps t p cs f (j + 1) := by
  refine ⟨?_, h.lt⟩
  rw [rows_next, List.append_assoc]
  have h1 := h.nodup
  rw [List.nodup_append] at h1 ⊢
  obtain ⟨a, b, c⟩ := h1
  refine ⟨a, ?_, fun x hx y hy => ?_⟩
  · rw [List.singleton_append, List.nodup_cons]
    exact ⟨fun h' => hn (List.mem_append.2 (.inr h')), b⟩
  · rw [List.singleton_append] at hy
    rcases List.mem_cons.1 hy with rfl | hy
    · intro e
      rw [e] at hx
      exact hn (List.mem_append.2 (.inl hx))
    · exact c x hx y hy

theorem Steps.close {t : List UInt8} {p : Nat → Nat} (hA : Ahead t p) {cs : List (Nat × Nat)} {f j : Nat} (hm : Met t p cs f) (h : Steps t p cs f j) (hj : 0 < j) (hmem : it p j f ∈ rows p (f, j) ++ allRows p cs) : it p j f = f := by
  obtain ⟨m, rfl⟩ : ∃ m, j = m + 1 := ⟨j - 1, by omega⟩
  have hlast : it p m f ∈ rows p (f, m + 1) := mem_rows.2 ⟨m, by omega, rfl⟩
  have hnd := h.nodup
  rw [List.nodup_append] at hnd
  rcases List.mem_append.1 hmem with hr | hr
  · obtain ⟨i, hi, e⟩ := mem_rows.1 hr
    cases i with
    | zero => exact e.symm
    | succ i =>
      exfalso
      have e' : it p i f = it p m f := hA.inj (hA.it_lt h.lt _) (hA.it_lt h.lt _) e
      have h1 := hnd.1
      unfold rows at h1
      rw [List.nodup_iff_pairwise_ne, List.pairwise_map] at h1
      have := List.pairwise_iff_getElem.1 h1 i m (by simp; omega) (by simp) (by omega)
      simp only [List.getElem_range] at this
      exact this e'
  · exfalso
    obtain ⟨c, hc, hr'⟩ := List.mem_flatMap.1 hr
    obtain ⟨c1, c2⟩ := c
    obtain ⟨i, hi, e⟩ := mem_rows.1 hr'
    have hcy := hm.cyc _ hc
    have hpos : 0 < c2 := hcy.pos
    have hlt : c1 < t.length := hcy.lt
    have hround : it p c2 c1 = c1 := hcy.round
    have key : ∀ k, k < c2 → p (it p k c1) = p (it p m f) → False := fun k hk e2 => by
      have e3 := hA.inj (hA.it_lt hlt _) (hA.it_lt h.lt _) e2
      exact hnd.2.2 _ hlast _ (List.mem_flatMap.2 ⟨_, hc, mem_rows.2 ⟨k, hk, e3⟩⟩) rfl
    cases i with
    | zero =>
      obtain ⟨k, rfl⟩ : ∃ k, c2 = k + 1 := ⟨c2 - 1, by omega⟩
      refine key k (by omega) ?_
      have e4 : c1 = it p (m + 1) f := e
      rw [← hround] at e4
      exact e4
    | succ i => exact key i (by omega) e

theorem Met.again {t : List UInt8} {p : Nat → Nat} {cs : List (Nat × Nat)} {f : Nat} (h : Met t p cs f) (hf : f ∈ allRows p cs) : Met t p cs (f + 1) :=
  ⟨h.cyc, h.down, h.nodup, fun r hr => by
    by_cases e : r = f
    · subst e; exact hf
    · exact h.all r (by omega), fun c hc => Nat.lt_succ_of_lt (h.lt c hc)⟩

theorem Met.more {t : List UInt8} {p : Nat → Nat} {cs : List (Nat × Nat)} {f j : Nat} (hm : Met t p cs f) (h : Steps t p cs f j) (hj : 0 < j) (hr : it p j f = f) : Met t p ((f, j) :: cs) (f + 1) := by
  have hnd := h.nodup
  rw [List.nodup_append] at hnd
  have hcyc : Cyc t p (f, j) := by
    refine ⟨hj, h.lt, hr, fun i hi0 hi1 => ?_⟩
    have hin : it p i f ∈ rows p (f, j) := mem_rows.2 ⟨i, hi1, rfl⟩
    rcases Nat.lt_trichotomy f (it p i f) with e | e | e
    · exact e
    · exfalso
      have h1 := hnd.1
      unfold rows at h1
      rw [List.nodup_iff_pairwise_ne, List.pairwise_map] at h1
      have := List.pairwise_iff_getElem.1 h1 0 i (by simp; omega) (by simpa using hi1) hi0
      simp only [List.getElem_range] at this
      exact this e
    · exfalso
      exact hnd.2.2 _ hin _ (hm.all _ e) rfl
  refine ⟨fun c hc => ?_, ?_, ?_, fun r hr => ?_, fun c hc => ?_⟩
  · rcases List.mem_cons.1 hc with rfl | hc
    · exact hcyc
    · exact hm.cyc c hc
  · rw [List.pairwise_cons]
    exact ⟨fun c hc => hm.lt c hc, hm.down⟩
  · rw [allRows_cons]
    exact h.nodup
  · rw [allRows_cons]
    by_cases e : r = f
    · subst e
      exact List.mem_append.2 (.inl (mem_rows.2 ⟨0, hj, rfl⟩))
    · exact List.mem_append.2 (.inr (hm.all r (by omega)))
  · rcases List.mem_cons.1 hc with rfl | hc
    · exact Nat.lt_succ_self _
    · exact Nat.lt_succ_of_lt (hm.lt c hc)

theorem Met.done {t : List UInt8} {p : Nat → Nat} (hA : Ahead t p) {cs : List (Nat × Nat)} (h : Met t p cs t.length) : All t p cs := by
  refine ⟨h.cyc, h.down, (List.perm_ext_iff_of_nodup h.nodup List.nodup_range).2 fun r => ?_⟩
  rw [List.mem_range]
  exact ⟨fun hr => h.small hA hr, fun hr => h.all r hr⟩

theorem words_length (t : List UInt8) (p : Nat → Nat) : ∀ cs : List (Nat × Nat), (cs.map (word t p)).flatten.length = (allRows p cs).length
  | [] => rfl
  | c :: cs => by
    rw [List.map_cons, List.flatten_cons, List.length_append, word_length, allRows_cons, List.length_append, words_length t p cs]
    simp [rows]
end Go.Proofs.Ytkiindkoiomieaa.Tur

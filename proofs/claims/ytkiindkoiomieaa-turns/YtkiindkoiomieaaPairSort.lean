/-
  P4: slices.SortFunc and slices.Clone of pairs, by their contracts.
-/
import Derived.Test.YtkiindkoiomieaaPairEq
namespace Go.Proofs.Ytkiindkoiomieaa
open Go.RowKit Go.Lib Go.Sort

theorem Lies.holds {w : World} {g : Nat} {d : Array (Int × Int)} (h : Lies w g d) : HoldsK encP 2 w g 0 d := by
  intro j hj
  rw [size_flatK] at hj
  rw [get_flatK _ _ _ _ hj, Nat.zero_add]
  refine ⟨?_, h.frozen j⟩
  have hc := h.cell (j := j / 2) (by omega)
  rcases Nat.mod_two_eq_zero_or_one j with e | e
  · rw [e, show (⟨g, j, none⟩ : Addr) = ⟨g, j / 2 * 2, none⟩ by rw [show j / 2 * 2 = j by omega], hc.1]
    rfl
  · rw [e, show (⟨g, j, none⟩ : Addr) = ⟨g, j / 2 * 2 + 1, none⟩ by rw [show j / 2 * 2 + 1 = j by omega], hc.2]
    rfl

theorem sortWorld_heap {w : World} {g : Nat} {cur : Array Value} {t : TypeId} (h : w.heap[g]? = some (.cells cur t (0, 0))) (n : Nat) (d' : Array (Int × Int)) (os : Array Obj) :
    (∃ cur', (sortWorldK encP 2 w g 0 n d' os).heap[g]? = some (.cells cur' t (0, 0))) ∧ w.grownBy (sortWorldK encP 2 w g 0 n d' os) (some g) := by
  have hg := heap_lt0 h
  have hold : ∀ k, k < w.heap.size → (sortWorldK encP 2 w g 0 n d' os).heap[k]? = (putRowK encP 2 (Sort.ahead w n) g 0 d').heap[k]? := fun k hk => by
    unfold sortWorldK grow
    simp only
    rw [Array.getElem?_append_left]
    simp [putRowK, putRow, mapBlock, Sort.ahead]
    exact hk
  constructor
  · refine ⟨putCells id 0 (flatK encP 2 d') cur, ?_⟩
    rw [hold g hg]
    simp [putRowK, putRow, mapBlock, Sort.ahead, Array.getElem?_modify, h, onCells]
  · refine ⟨rfl, rfl, rfl, ?_, fun k hk hne => ?_⟩
    · simp [sortWorldK, grow, putRowK, putRow, mapBlock, Sort.ahead]
    · rw [hold k hk]
      have : g ≠ k := fun e => hne (by rw [e])
      simp [putRowK, putRow, mapBlock, Sort.ahead, Array.getElem?_modify, this]

theorem Lies.sorted {w : World} {g : Nat} {d : Array (Int × Int)} (h : Lies w g d) (n : Nat) (d' : Array (Int × Int)) (os : Array Obj) (hs : d'.size = d.size) : Lies (sortWorldK encP 2 w g 0 n d' os) g d' := by
  have hH := h.holds
  have hlt := h.lt
  obtain ⟨cur, h1, _⟩ := h
  obtain ⟨⟨cur', h2⟩, _⟩ := sortWorld_heap h1 n d' os
  have h3 : HoldsK encP 2 (sortWorldK encP 2 w g 0 n d' os) g 0 d' := by
    unfold sortWorldK
    refine holdsK_grow _ _ _ _ _ _ _ (by simpa [putRowK, putRow, mapBlock, Sort.ahead] using hlt) ?_
    exact holdsK_putRowK _ _ _ _ _ d _ (holdsK_ahead _ _ _ _ _ _ _ hH) hs
  refine ⟨cur', h2, fun j hj => ?_⟩
  have a := (h3.cell (i := j) (c := 0) hj (by omega)).1
  have b := (h3.cell (i := j) (c := 1) hj (by omega)).1
  rw [Nat.zero_add, Nat.add_zero, cell_of_row _ g _ _ _ _ h2] at a
  rw [Nat.zero_add, cell_of_row _ g _ _ _ _ h2] at b
  exact ⟨a, b⟩

theorem cmp_lays (blk off size : Nat) (w : World) : CmpLays Try.prog 52 #[] encP 2 cmpP blk off size w :=
  fun _ _ _ _ x y => compare_any x y _

/-- Sorted as a dictionary is. -/
theorem sort_any (g cap : Nat) (d : Array (Int × Int)) (w : World) (hsz : d.size ≤ 500) (hL : Lies w g d) :
    Calls Try.prog 51 #[.slice (some ⟨g, 0, none⟩) d.size cap, .func (.func 52) #[] #[]] w fun e w' => e = .returned (.tuple #[]) ∧ ∃ d', d'.size = d.size ∧ d'.toList.Perm d.toList ∧ (∀ i j, i < j → j < d.size → ltP d'[j]! d'[i]! = false) ∧ Lies w' g d' ∧ w.grownBy w' (some g) := by
  have eg : ∀ args w, (callFunc 52 args).run Try.prog w = .ok (.enter 52 args) w := enters_of Try.func52 (by kernel_rfl) rfl
  have hcon := AnyQ.slices_SortFunc Try.sortPair 2 Try.isAgg78 Try.sizeOf78 encP (fun _ => rfl) (fun x v hv => by simp [encP] at hv; rcases hv with rfl | rfl <;> rfl) cmpP swoP 52 #[] g 0 cap d w eg (cmp_lays g 0 d.size w) hL.holds hL.lt (by omega)
  change Calls Try.prog 51 _ _ _ at hcon
  refine hcon.mono ?_
  rintro e w' ⟨he, d', n, os, hp, hs, rfl⟩
  have hsize : d'.size = d.size := hp.1
  refine ⟨he, d', hsize, ?_, fun i j hij hj => ?_, hL.sorted n d' os hsize, ?_⟩
  · have := hp.2.2
    rwa [Array.extract_eq_self_of_le (by omega), Array.extract_eq_self_of_le (Nat.le_refl _)] at this
  · rw [← lt_cmpP]
    exact hs i j (Nat.zero_le _) hij hj
  · obtain ⟨cur, h1, _⟩ := hL
    exact (sortWorld_heap h1 n d' os).2
end Go.Proofs.Ytkiindkoiomieaa

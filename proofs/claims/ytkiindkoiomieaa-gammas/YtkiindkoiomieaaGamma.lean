/-
  P6: the walk of Gamma.
-/
import Derived.Test.YtkiindkoiomieaaPut
namespace Go.Proofs.Ytkiindkoiomieaa
open Go.RowKit

/-- May the number be written? -/
def goodB (z : Int) : Bool := decide (1 ≤ z) && decide (z ≤ 1073741824)
/-- Which error. -/
def gE (zs : List Int) : Int := if 100 < zs.length then 1 else if zs.all goodB then 0 else 2
/-- Which text. -/
def gS (zs : List Int) : List UInt8 := if 100 < zs.length then [] else if zs.all goodB then gammaL zs else []

theorem good_iff (z : Int) : goodB z = true ↔ 1 ≤ z ∧ z ≤ 1073741824 := by simp [goodB]

theorem ret_gamma {zs : List Int} {l : List UInt8} {c : Int} (h1 : gS zs = l) (h2 : gE zs = c) : Ending.returned (.tuple #[.string ⟨l.toArray⟩, .int .i64 c]) = .returned (.tuple #[.string ⟨(gS zs).toArray⟩, .int .i64 (gE zs)]) := by rw [h1, h2]

theorem gamma_bad {zs : List Int} {z : Int} {k : Nat} (hl : zs.length ≤ 100) (hk : zs[k]? = some z) (hb : ¬ (1 ≤ z ∧ z ≤ 1073741824)) : gS zs = [] ∧ gE zs = 2 := by
  have h : zs.all goodB = false := by
    rw [List.all_eq_false]
    exact ⟨z, List.mem_of_getElem? hk, by rw [good_iff]; exact hb⟩
  refine ⟨?_, ?_⟩
  · unfold gS
    rw [if_neg (by omega), h]
    rfl
  · unfold gE
    rw [if_neg (by omega), h]
    rfl

theorem gamma_good {zs : List Int} (hl : zs.length ≤ 100) (h : ∀ z ∈ zs, goodB z = true) : gS zs = gammaL zs ∧ gE zs = 0 ∧ ∀ z ∈ zs, 1 ≤ z ∧ z ≤ 1073741824 := by
  have h1 : zs.all goodB = true := List.all_eq_true.2 h
  refine ⟨?_, ?_, fun z hz => (good_iff z).1 (h z hz)⟩
  · unfold gS
    rw [if_neg (by omega), h1]
    rfl
  · unfold gE
    rw [if_neg (by omega), h1]
    rfl

theorem good_next {zs : List Int} {z : Int} {k : Nat} (h : ∀ y ∈ zs.take k, goodB y = true) (hk : zs[k]? = some z) (hz : 1 ≤ z ∧ z ≤ 1073741824) : ∀ y ∈ zs.take (k + 1), goodB y = true := by
  rw [List.take_add_one, hk]
  intro y hy
  rcases List.mem_append.1 hy with h1 | h1
  · exact h y h1
  · simp at h1
    subst h1
    exact (good_iff _).2 hz

set_option maxHeartbeats 400000 in
set_option maxRecDepth 100000 in
theorem writer_any (w : World) :
    Calls Try.prog 27 #[] w fun e w' => e = .returned (.tuple #[.func (.func 40) #[] #[.pointer (some ⟨w.heap.size, 0, none⟩)], .func (.func 42) #[.pointer (some ⟨w.heap.size, 0, none⟩)] #[]]) ∧ w' = w.alloc (.cells #[.pointer none, .slice none 0 0] 66) := by
  go_enter Try.func27, Try.ntmps27
  go_wp2
  go_ret2
  exact ⟨rfl, rfl⟩

set_option maxHeartbeats 1000000 in
set_option maxRecDepth 100000 in
theorem gamma_any (ao : Option Addr) (len cap : Nat) (zs : List Int) (lb lo : Nat) (w : World) (hz : zs.length = len) (hm : len ≤ 9223372036854775807)
    (hao : 0 < len → ao = some ⟨lb, lo, none⟩ ∧ lb < w.heap.size) (hc : ∀ j z, zs[j]? = some z → w.cell? ⟨lb, lo + j, none⟩ = some (.int .i64 z)) :
    Calls Try.prog 11 #[.slice ao len cap] w fun e w' => e = .returned (.tuple #[.string ⟨(gS zs).toArray⟩, .int .i64 (gE zs)]) ∧ Below w.heap.size w w' := by
  by_cases h100 : len ≤ 100
  · have HC := hide hc
    have HA := hide hao
    have HZ := hide hz
    clear hc hao hz
    go_enter Try.func11, Try.ntmps11
    go_wp2
    go_loop [13] (fun i => ∃ k : Nat, k ≤ len ∧ i = .int .i64 k ∧ Hid (∀ z ∈ zs.take k, goodB z = true)) (fun i => len - (intOf i).toNat)
    case atStart => exact ⟨0, Nat.zero_le _, rfl, by intro z hz; simp at hz⟩
    case round =>
      obtain ⟨k, hk, rfl, HG⟩ := hrel
      by_cases hlt : k < len
      · obtain ⟨z, hzk⟩ : ∃ z, zs[k]? = some z := ⟨_, List.getElem?_eq_getElem (by rw [HZ.out]; exact hlt)⟩
        obtain ⟨rfl, hlb⟩ := HA.out (by omega)
        have hcell := HC.out k z hzk
        have HK := hide hzk
        clear hzk
        by_cases hz1 : z < 1
        · have hall : Hid (gS zs = [] ∧ gE zs = 2) := gamma_bad (by rw [HZ.out]; exact h100) HK.out (by omega)
          go_wp2
          go_ret2
          exact ⟨ret_gamma hall.out.1 hall.out.2, Below.refl _ _⟩
        · by_cases hz2 : 1073741824 < z
          · have hall : Hid (gS zs = [] ∧ gE zs = 2) := gamma_bad (by rw [HZ.out]; exact h100) HK.out (by omega)
            go_wp2
            go_ret2
            exact ⟨ret_gamma hall.out.1 hall.out.2, Below.refl _ _⟩
          · go_wp2
            go_round
            case rel => exact ⟨k + 1, by omega, by go_num, good_next HG.out HK.out (by omega)⟩
            case measure => simp [intOf]; omega
      · have hall : Hid (gS zs = gammaL zs ∧ gE zs = 0 ∧ ∀ z ∈ zs, 1 ≤ z ∧ z ≤ 1073741824) := by
          have h1 := HG.out
          rw [List.take_of_length_le (by rw [HZ.out]; omega)] at h1
          exact gamma_good (by rw [HZ.out]; exact h100) h1
        have cP := hide (putNumbers_any w.heap.size w.heap.size ao len cap zs lb lo (w.alloc (.cells #[.pointer none, .slice none 0 0] 66)) HZ.out hall.out.2.2 h100 HA.out (fun j z hj => (((Below.refl _ w).alloc (Nat.le_refl _) _).cell (p := ⟨lb, lo + j, none⟩) (block_lt_of_cell (HC.out j z hj))).trans (HC.out j z hj)) (Lib.fresh_isBuilder 66 5 w) (by simp))
        go_wp2_with (first
          | (go_at_call 27; refine (writer_any _).mono ?_; rintro e w' ⟨rfl, rfl⟩)
          | (go_at_call 28; refine (unhide cP).mono ?_; rintro e w2 ⟨rfl, hB2, hbl2⟩)
          | (go_at_call 42; refine (Try.Builder_String_any _ _ _ _ hB2 (by have := hbl2.size; simp at this; omega)).mono ?_; rintro e w3 ⟨rfl, hb3⟩))
        go_ret2
        exact ⟨ret_gamma hall.out.1 hall.out.2.1, ((Below.refl _ w).alloc (Nat.le_refl _) _).trans (hbl2.trans hb3)⟩
  · have h2 : gE zs = 1 := by unfold gE; rw [if_pos (by omega)]
    have h1 : gS zs = [] := by unfold gS; rw [if_pos (by omega)]
    have H := hide (And.intro h1 h2)
    clear h1 h2 hc hao hz
    go_enter Try.func11, Try.ntmps11
    go_wp2
    go_ret2
    exact ⟨ret_gamma H.out.1 H.out.2, Below.refl _ _⟩
end Go.Proofs.Ytkiindkoiomieaa

/-
  P4: strings.Builder's Write of bytes.
-/
import Derived.Test.YtkiindkoiomieaaBackRows
import Derived.Test.YtkiindkoiomieaaCycMath
import Derived.Test.YtkiindkoiomieaaRefTurn
namespace Go.Proofs.Ytkiindkoiomieaa
open Go.RowKit Go.Lib

theorem fresh_one (w : World) : Lib.IsBuilder 66 5 w.heap.size w.heap.size (Lib.byteCells []) (w.alloc (.cells #[.pointer none, .slice none 0 0] 66)) := by
  left
  exact ⟨Nat.le_refl _, .slice none 0 0, heap_alloc_new _ _, World.ownsRow_nil _ _ _ _, by simp [Value.ownBlock]⟩

set_option maxHeartbeats 1000000 in
set_option maxRecDepth 100000 in
theorem writeAll_any (B b g cap : Nat) (l : List UInt8) (w : World) (h : Lib.IsBuilder 66 5 B b [] w) (hlen : l.length ≤ 500) (hBw : B ≤ w.heap.size) (hg : g < B) (hc : ∀ j u, (Lib.byteCells l)[j]? = some u → w.cell? ⟨g, j, none⟩ = some u) :
    Calls Try.prog 54 #[.pointer (some ⟨b, 0, none⟩), .slice (some ⟨g, 0, none⟩) l.length cap] w fun e w' => e = .returned (.tuple #[.int .i64 (l.length : Int), .nilIface]) ∧ Lib.IsBuilder 66 5 B b (Lib.byteCells l) w' ∧ Below B w w' := by
  obtain ⟨i0, hi, hz0, hz1, hz2⟩ := info_parts Try.info5
  have HC := hide hc
  clear hc
  go_enter Try.func54, Try.ntmps54
  go_wp2_with (go_at_call 59; refine (check_any B b [] _ h).mono ?_)
  rintro e w1 ⟨rfl, h1, hb1⟩
  obtain ⟨hB, v, hbk, hown, hne⟩ := h1
  have c1 : w1.cell? ⟨b, 1, none⟩ = some v := by rw [Lib.cell_of_heap hbk]; rfl
  have hs1 := hb1.size
  go_wp2_with (at_builtin; refine wpList_append_own _ rfl _ _ 63 rfl B 5 i0 (.int .u8 0) 1 1 Try.underlying63 hi hz0 hz1 hz2 rfl (by decide) _ _ _ rfl hown ⟨g, 0, none⟩ l.length cap (Lib.byteCells l) rfl ?q1 ?q2 ?q3 (by simp; unfold maxLen; omega) (by simp; omega) (by omega) ?_)
  case q1 => rw [Lib.byteCells_length, Nat.mul_one]
  case q2 =>
    intro j u hj
    rw [Addr.add_lit, Nat.zero_add]
    exact (hb1.cell (p := ⟨g, j, none⟩) hg).trans (HC.out j u hj)
  case q3 =>
    intro u hu
    simp only [Lib.byteCells, List.mem_map] at hu
    obtain ⟨x, _, rfl⟩ := hu
    rfl
  intro v' w2 hown' hgrow _
  have hlt : b < w1.heap.size := heap_lt0 hbk
  have hb2 : w2.heap[b]? = some (.cells #[.pointer (some ⟨b, 0, none⟩), v] 66 (0, 0)) := by
    rw [hgrow.block b hlt (fun e => hne e.symm)]
    exact hbk
  have d1 : w2.cell? ⟨b, 1, none⟩ = some v := by rw [Lib.cell_of_heap hb2]; rfl
  have f1 : w2.frozen? ⟨b, 1, none⟩ = false := Lib.frozen_of_heap hb2 1
  obtain ⟨a', cap', rfl⟩ := owns_slice hown'
  go_wp2
  go_ret2
  refine ⟨rfl, .inr ?_, ?_⟩
  · exact Lib.BuilderAt.put hB hb2 (bs' := Lib.byteCells l) (by simpa [Lib.byteCells_length] using hown') (by decide)
  · exact (hb1.grown hgrow (by omega) (fun k hk => (hown.lt k hk).1)).setCell (p := ⟨b, 1, none⟩) hB _
end Go.Proofs.Ytkiindkoiomieaa

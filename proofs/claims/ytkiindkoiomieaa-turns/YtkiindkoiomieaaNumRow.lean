/-
  Rows of numbers, pairs, bytes and truths that are made at one stroke.
-/
import Derived.Test.YtkiindkoiomieaaPairSort
import Derived.Laws.MakeOwn
namespace Go.Proofs.Ytkiindkoiomieaa
open Go.RowKit Go.Lib Go.Sort

/-- Numbers as cells. -/
def cellsN (l : List Nat) : Array Value := (l.map fun x : Nat => Value.int .i64 (x : Int)).toArray
/-- Truths as cells. -/
def cellsT (l : List Bool) : Array Value := (l.map Value.bool).toArray
/-- Bytes as cells. -/
def cellsY (l : List UInt8) : Array Value := (l.map fun b => Value.int .u8 (b.toNat : Int)).toArray

/-- The first k of n: as f says; zeros behind them. -/
def fill (f : Nat → Nat) (n k : Nat) : List Nat := (List.range n).map fun j => if j < k then f j else 0

theorem fill_length (f : Nat → Nat) (n k : Nat) : (fill f n k).length = n := by simp [fill]
theorem fill_at (f : Nat → Nat) {n k j : Nat} (h : j < n) : (fill f n k)[j]? = some (if j < k then f j else 0) := by simp [fill, h]
theorem fill_zero (f : Nat → Nat) (n : Nat) : fill f n 0 = List.replicate n 0 := by
  apply List.ext_getElem
  · simp [fill]
  · intro i h1 h2
    simp [fill]
theorem fill_set (f : Nat → Nat) (n k : Nat) : (fill f n k).set k (f k) = fill f n (k + 1) := by
  apply List.ext_getElem
  · simp [fill]
  · intro i h1 h2
    simp only [fill, List.getElem_set, List.getElem_map, List.getElem_range]
    by_cases hk : k = i
    · subst hk
      simp
    · rw [if_neg hk]
      by_cases h3 : i < k
      · rw [if_pos h3, if_pos (by omega)]
      · rw [if_neg h3, if_neg (by omega)]

theorem cellsN_set (l : List Nat) (k x : Nat) : (cellsN l).setIfInBounds k (.int .i64 (x : Int)) = cellsN (l.set k x) := by simp [cellsN, List.map_set]
theorem cellsN_at {l : List Nat} {j x : Nat} (h : l[j]? = some x) : (cellsN l)[j]? = some (.int .i64 (x : Int)) := by simp [cellsN, h]
theorem cellsT_set (l : List Bool) (k : Nat) (x : Bool) : (cellsT l).setIfInBounds k (.bool x) = cellsT (l.set k x) := by simp [cellsT, List.map_set]
theorem cellsT_at {l : List Bool} {j : Nat} {x : Bool} (h : l[j]? = some x) : (cellsT l)[j]? = some (.bool x) := by simp [cellsT, h]
theorem cellsY_set (l : List UInt8) (k : Nat) (x : UInt8) : (cellsY l).setIfInBounds k (.int .u8 (x.toNat : Int)) = cellsY (l.set k x) := by simp [cellsY, List.map_set]
theorem cellsY_at {l : List UInt8} {j : Nat} {x : UInt8} (h : l[j]? = some x) : (cellsY l)[j]? = some (.int .u8 (x.toNat : Int)) := by simp [cellsY, h]

theorem Try.info5' : (Try.prog.info? 5).map (fun i => (i.zero, i.size, i.bytes)) = some (some (.int .u8 0), 1, 1) := by kernel_rfl
theorem Try.info4' : (Try.prog.info? 4).map (fun i => (i.zero, i.size, i.bytes)) = some (some (.bool false), 1, 1) := by kernel_rfl
theorem Try.infoPair : (Try.prog.info? 78).map (fun i => (i.zero, i.size, i.bytes)) = some (some (.agg #[.int .i64 0, .int .i64 0]), 2, 16) := by kernel_rfl

theorem make_ints (n : Nat) (hn : n ≤ 500) (W : World) : (Instr.makeSlice 24 (.int .i64 (n : Int)) (.int .i64 (n : Int))).run Try.prog W = .ok (.slice (some ⟨W.heap.size, 0, none⟩) n n) (W.alloc (.cells (cellsN (List.replicate n 0)) 3)) := by
  obtain ⟨i0, hi, hz0, hz1, hz2⟩ := info_parts Try.info3
  have h := run_make (P := Try.prog) W 24 3 i0 (.int .i64 0) Try.underlying24 hi hz0 .i64 .i64 n n (by omega) (by omega) (by rw [hz2]; omega) (by omega)
  have e : madeCells (Value.int .i64 0).cells ((n : Int).toNat * i0.size) = cellsN (List.replicate n 0) := by
    rw [hz1]
    apply Array.ext'
    show (madeCells #[Value.int .i64 0] _).toList = _
    rw [toList_madeCells_one]
    simp [cellsN]
  rw [e] at h
  simpa using h

theorem make_bytes (n : Nat) (hn : n ≤ 500) (W : World) : (Instr.makeSlice 63 (.int .i64 (n : Int)) (.int .i64 (n : Int))).run Try.prog W = .ok (.slice (some ⟨W.heap.size, 0, none⟩) n n) (W.alloc (.cells (cellsY (List.replicate n 0)) 5)) := by
  obtain ⟨i0, hi, hz0, hz1, hz2⟩ := info_parts Try.info5'
  have h := run_make (P := Try.prog) W 63 5 i0 (.int .u8 0) Try.underlying63 hi hz0 .i64 .i64 n n (by omega) (by omega) (by rw [hz2]; omega) (by omega)
  have e : madeCells (Value.int .u8 0).cells ((n : Int).toNat * i0.size) = cellsY (List.replicate n 0) := by
    rw [hz1]
    apply Array.ext'
    show (madeCells #[Value.int .u8 0] _).toList = _
    rw [toList_madeCells_one]
    simp [cellsY]
  rw [e] at h
  simpa using h

theorem make_truths (n : Nat) (hn : n ≤ 500) (W : World) : (Instr.makeSlice 81 (.int .i64 (n : Int)) (.int .i64 (n : Int))).run Try.prog W = .ok (.slice (some ⟨W.heap.size, 0, none⟩) n n) (W.alloc (.cells (cellsT (List.replicate n false)) 4)) := by
  obtain ⟨i0, hi, hz0, hz1, hz2⟩ := info_parts Try.info4'
  have h := run_make (P := Try.prog) W 81 4 i0 (.bool false) Try.underlying81 hi hz0 .i64 .i64 n n (by omega) (by omega) (by rw [hz2]; omega) (by omega)
  have e : madeCells (Value.bool false).cells ((n : Int).toNat * i0.size) = cellsT (List.replicate n false) := by
    rw [hz1]
    apply Array.ext'
    show (madeCells #[Value.bool false] _).toList = _
    rw [toList_madeCells_one]
    simp [cellsT]
  rw [e] at h
  simpa using h

/-- Zeros. -/
def zeroP (n : Nat) : Array (Int × Int) := Array.replicate n (0, 0)

theorem make_pairs (n : Nat) (hn : n ≤ 500) : ∃ cs : Array Value, (∀ W : World, (Instr.makeSlice 76 (.int .i64 (n : Int)) (.int .i64 (n : Int))).run Try.prog W = .ok (.slice (some ⟨W.heap.size, 0, none⟩) n n) (W.alloc (.cells cs 78))) ∧ (∀ W : World, W.heap.size < (W.alloc (.cells cs 78)).heap.size) ∧ ∀ W g, W.heap[g]? = some (.cells cs 78 (0, 0)) → Lies W g (zeroP n) := by
  obtain ⟨i0, hi, hz0, hz1, hz2⟩ := info_parts Try.infoPair
  refine ⟨madeCells (Value.agg #[.int .i64 0, .int .i64 0]).cells (n * 2), fun W => ?_, fun W => by simp, fun W g hg => ?_⟩
  · have h := run_make (P := Try.prog) W 76 78 i0 _ Try.underlying76 hi hz0 .i64 .i64 n n (by omega) (by omega) (by rw [hz2]; omega) (by omega)
    rw [hz1] at h
    simpa using h
  · refine ⟨_, hg, fun j hj => ?_⟩
    have hj' : j < n := by simpa [zeroP] using hj
    have hz : (zeroP n)[j]! = (0, 0) := by
      rw [getElem!_pos _ j hj]
      simp [zeroP]
    rw [hz]
    have e1 : j * 2 % 2 = 0 := by omega
    have e2 : (j * 2 + 1) % 2 = 1 := by omega
    have g1 : j * 2 < n * 2 := by omega
    have g2 : j * 2 + 1 < n * 2 := by omega
    constructor
    · simp [madeCells, Value.cells, g1]
    · simp [madeCells, Value.cells, g2, e2]
end Go.Proofs.Ytkiindkoiomieaa

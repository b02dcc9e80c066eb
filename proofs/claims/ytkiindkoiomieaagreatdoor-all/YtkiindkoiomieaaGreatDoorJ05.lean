import Derived.Shelf.SlSortCmp.NoneTotal
import Derived.Shelf.SlicesE.Clone
import Derived.Shelf.Small.Wraps
import Derived.Test.YtkiindkoiomieaaGreatDoorProg
import Derived.Test.YtkiindkoiomieaaGreatDoorJ04
import Derived.Deep.RegionHeld3
import Derived.Laws.StructEq
import Derived.ChangeKeysEq
import Derived.Lib.SlicesCompact
import Derived.Lib.SliceRun
import Derived.Deep.LoopGhost
import Derived.Laws.MakeOwn
import Derived.Maps.Own
import Derived.Maps.OwnOps
import Derived.Maps.OwnSet
import Derived.Maps.Views
import Derived.DeepKeys4
import Derived.Test.YtkiindkoiomieaaGreatDoorJ01
section
namespace Go.Proofs
open Go.Shelf
def Tryz.sortPair_ren : Go.Shelf.Ren := ⟨fun | 6 => 61 | 15 => 69 | 14 => 95 | 28 => 100 | 29 => 101 | 20 => 116 | 21 => 117 | 22 => 118 | 23 => 119 | 24 => 120 | 25 => 121 | 26 => 122 | 27 => 123 | 46 => 142 | 47 => 143 | 48 => 144 | 49 => 145 | 50 => 146 | 57 => 159 | n => n, fun | 22 => 75 | 24 => 77 | 25 => 79 | 3 => 3 | 39 => 92 | 0 => 0 | 53 => 97 | 55 => 117 | 4 => 4 | 46 => 128 | 45 => 127 | 50 => 56 | 5 => 5 | 9 => 9 | 66 => 152 | 70 => 156 | 76 => 166 | 77 => 70 | n => n, fun | n => n⟩
theorem Tryz.sortPair : Go.Proofs.SlLaysF0.n6 Tryz.prog Tryz.sortPair_ren := {
  mixed := by kernel_rfl
  f6 := ⟨Tryz.f61.name, by decide, Tryz.func61.trans (congrArg some (by kernel_rfl))⟩
  f14 := ⟨Tryz.f95.name, by decide, Tryz.func95.trans (congrArg some (by kernel_rfl))⟩
  f15 := Tryz.func69.trans (congrArg some (by kernel_rfl))
  f20 := ⟨Tryz.f116.name, by decide, Tryz.func116.trans (congrArg some (by kernel_rfl))⟩
  f21 := ⟨Tryz.f117.name, by decide, Tryz.func117.trans (congrArg some (by kernel_rfl))⟩
  f22 := ⟨Tryz.f118.name, by decide, Tryz.func118.trans (congrArg some (by kernel_rfl))⟩
  f23 := ⟨Tryz.f119.name, by decide, Tryz.func119.trans (congrArg some (by kernel_rfl))⟩
  f24 := ⟨Tryz.f120.name, by decide, Tryz.func120.trans (congrArg some (by kernel_rfl))⟩
  f25 := ⟨Tryz.f121.name, by decide, Tryz.func121.trans (congrArg some (by kernel_rfl))⟩
  f26 := ⟨Tryz.f122.name, by decide, Tryz.func122.trans (congrArg some (by kernel_rfl))⟩
  f27 := ⟨Tryz.f123.name, by decide, Tryz.func123.trans (congrArg some (by kernel_rfl))⟩
  f28 := Tryz.func100.trans (congrArg some (by kernel_rfl))
  f29 := Tryz.func101.trans (congrArg some (by kernel_rfl))
  f46 := ⟨Tryz.f142.name, by decide, Tryz.func142.trans (congrArg some (by kernel_rfl))⟩
  f47 := Tryz.func143.trans (congrArg some (by kernel_rfl))
  f48 := Tryz.func144.trans (congrArg some (by kernel_rfl))
  f49 := ⟨Tryz.f145.name, by decide, Tryz.func145.trans (congrArg some (by kernel_rfl))⟩
  f50 := ⟨Tryz.f146.name, by decide, Tryz.func146.trans (congrArg some (by kernel_rfl))⟩
  f57 := ⟨Tryz.f159.name, by decide, Tryz.func159.trans (congrArg some (by kernel_rfl))⟩
  t0 := Tryz.underlying0
  a0 := Tryz.isAgg0
  z0 := Tryz.sizeOf0
  v0 := Tryz.zeroValue0
  t3 := Tryz.underlying3
  a3 := Tryz.isAgg3
  z3 := Tryz.sizeOf3
  v3 := Tryz.zeroValue3
  t4 := Tryz.underlying4
  a4 := Tryz.isAgg4
  z4 := Tryz.sizeOf4
  v4 := Tryz.zeroValue4
  t5 := Tryz.underlying5
  a5 := Tryz.isAgg5
  z5 := Tryz.sizeOf5
  v5 := Tryz.zeroValue5
  t9 := Tryz.underlying9
  a9 := Tryz.isAgg9
  z9 := Tryz.sizeOf9
  v9 := Tryz.zeroValue9
  t22 := Tryz.underlying75
  a22 := Tryz.isAgg75
  z22 := Tryz.sizeOf75
  v22 := Tryz.zeroValue75
  t25 := Tryz.underlying79
  a25 := Tryz.isAgg79
  z25 := Tryz.sizeOf79
  v25 := Tryz.zeroValue79
  t39 := Tryz.underlying92
  a39 := Tryz.isAgg92
  z39 := Tryz.sizeOf92
  v39 := Tryz.zeroValue92
  t45 := Tryz.underlying127
  a45 := Tryz.isAgg127
  z45 := Tryz.sizeOf127
  v45 := Tryz.zeroValue127
  t46 := Tryz.underlying128
  a46 := Tryz.isAgg128
  z46 := Tryz.sizeOf128
  v46 := Tryz.zeroValue128
  t50 := Tryz.underlying56
  a50 := Tryz.isAgg56
  z50 := Tryz.sizeOf56
  v50 := Tryz.zeroValue56
  t53 := Tryz.underlying97
  a53 := Tryz.isAgg97
  z53 := Tryz.sizeOf97
  v53 := Tryz.zeroValue97
  t55 := Tryz.underlying117
  a55 := Tryz.isAgg117
  z55 := Tryz.sizeOf117
  v55 := Tryz.zeroValue117
  t66 := Tryz.underlying152
  a66 := Tryz.isAgg152
  z66 := Tryz.sizeOf152
  v66 := Tryz.zeroValue152
  t70 := Tryz.underlying156
  a70 := Tryz.isAgg156
  z70 := Tryz.sizeOf156
  v70 := Tryz.zeroValue156
  t76 := Tryz.underlying166
  a76 := Tryz.isAgg166
  z76 := Tryz.sizeOf166
  v76 := Tryz.zeroValue166
  t77 := Tryz.underlying70
  a77 := Tryz.isAgg70
  z77 := Tryz.sizeOf70
  v77 := Tryz.zeroValue70 }
def Tryz.clonePair_ren : Go.Shelf.Ren := ⟨fun | 41 => 140 | n => n, fun | 22 => 75 | 23 => 77 | 4 => 4 | n => n, fun | n => n⟩
theorem Tryz.clonePair : Go.Proofs.SlLaysE0.n41 Tryz.prog Tryz.clonePair_ren := {
  mixed := by kernel_rfl
  f41 := ⟨Tryz.f140.name, by decide, Tryz.func140.trans (congrArg some (by kernel_rfl))⟩
  t4 := Tryz.underlying4
  a4 := Tryz.isAgg4
  z4 := Tryz.sizeOf4
  v4 := Tryz.zeroValue4
  t22 := Tryz.underlying75
  a22 := Tryz.isAgg75
  z22 := Tryz.sizeOf75
  v22 := Tryz.zeroValue75 }
def Tryz.lays122_ren : Go.Shelf.Ren := ⟨fun | 122 => 97 | 215 => 124 | n => n, fun | 3 => 3 | 4 => 4 | n => n, fun | n => n⟩
theorem Tryz.lays122 : Go.Proofs.Lays.n122 Tryz.prog Tryz.lays122_ren := {
  mixed := by kernel_rfl
  f122 := Tryz.func97.trans (congrArg some (by kernel_rfl))
  f215 := Tryz.func124.trans (congrArg some (by kernel_rfl))
  t3 := Tryz.underlying3
  a3 := Tryz.isAgg3
  z3 := Tryz.sizeOf3
  v3 := Tryz.zeroValue3
  t4 := Tryz.underlying4
  a4 := Tryz.isAgg4
  z4 := Tryz.sizeOf4
  v4 := Tryz.zeroValue4 }
open Go.RowKit in
theorem Tryz.cmp_Compare_int (x y : Int) (w : World) :
    Calls Tryz.prog 97 #[.int .i64 x, .int .i64 y] w fun e w' => e = .returned (.int .i64 (Lib.compareInt x y)) ∧ w' = w := Any.cmp_Compare_int Tryz.lays122 x y w
end Go.Proofs
end

section
/-
  P4: the walks of cmp.Or and comparePairs; slices.SortFunc of pairs.
-/
namespace Go.Proofs.YtkiindkoiomieaaGreatDoor
open Go.RowKit Go.Lib Go.Sort

/-- A pair, as it stands in memory. -/
def encP (x : Int × Int) : List Value := [.int .i64 x.1, .int .i64 x.2]

/-- As comparePairs answers. -/
def cmpP (x y : Int × Int) : Int := if Lib.compareInt x.1 y.1 ≠ 0 then Lib.compareInt x.1 y.1 else Lib.compareInt x.2 y.2

/-- As a dictionary does. -/
def ltP (x y : Int × Int) : Bool := decide (x.1 < y.1) || (decide (x.1 = y.1) && decide (x.2 < y.2))

theorem lt_cmpP (x y : Int × Int) : ltOf cmpP x y = ltP x y := by
  unfold ltOf cmpP ltP Lib.compareInt
  by_cases h1 : x.1 < y.1
  · simp [h1]
  · by_cases h2 : y.1 < x.1
    · simp [h1, h2]
      omega
    · have h3 : x.1 = y.1 := by omega
      by_cases h4 : x.2 < y.2
      · simp [h3, h4]
      · by_cases h5 : y.2 < x.2 <;> simp [h3, h4, h5]

theorem swoP : SWO (ltOf cmpP) where
  irrefl x := by rw [lt_cmpP]; simp [ltP]
  trans x y z h1 h2 := by rw [lt_cmpP] at *; simp [ltP] at *; omega
  ntrans x y z h1 h2 := by rw [lt_cmpP] at *; simp [ltP] at *; omega

theorem totP (x y : Int × Int) (h1 : ltOf cmpP x y = false) (h2 : ltOf cmpP y x = false) : x = y := by
  rw [lt_cmpP] at h1 h2
  simp [ltP] at h1 h2
  refine Prod.ext ?_ ?_ <;> omega

set_option maxHeartbeats 400000 in
theorem or_any (g cap : Nat) (a b : Int) (w : World) (h0 : w.cell? ⟨g, 0, none⟩ = some (.int .i64 a)) (h1 : w.cell? ⟨g, 1, none⟩ = some (.int .i64 b)) :
    Calls Tryz.prog 96 #[.slice (some ⟨g, 0, none⟩) 2 cap] w fun e w' => e = .returned (.int .i64 (if a ≠ 0 then a else b)) ∧ w' = w := by
  by_cases ha : a = 0
  · subst ha
    have ha' : ((0 : Int) != 0) = false := by decide
    by_cases hb : b = 0
    · subst hb
      go_enter Tryz.func96, Tryz.ntmps96
      go_wp2
      refine wp_loop_rounds 3 ?_
      rw [rounds_succ]
      go_wp2
      rw [rounds_succ]
      go_wp2
      rw [rounds_succ]
      go_wp2
      go_ret
      exact ⟨rfl, rfl⟩
    · have hb' : (b != 0) = true := by simpa using hb
      go_enter Tryz.func96, Tryz.ntmps96
      go_wp2
      refine wp_loop_rounds 3 ?_
      rw [rounds_succ]
      go_wp2
      rw [rounds_succ]
      go_wp2
      go_ret
      exact ⟨by simp, rfl⟩
  · have ha' : (a != 0) = true := by simpa using ha
    go_enter Tryz.func96, Tryz.ntmps96
    go_wp2
    refine wp_loop_rounds 3 ?_
    rw [rounds_succ]
    go_wp2
    go_ret
    exact ⟨by simp, rfl⟩

set_option maxHeartbeats 1000000 in
theorem compare_any (x y : Int × Int) (w : World) :
    Calls Tryz.prog 62 #[.agg #[.int .i64 x.1, .int .i64 x.2], .agg #[.int .i64 y.1, .int .i64 y.2]] w fun e w' => e = .returned (.int .i64 (cmpP x y)) ∧ ∃ q os', w' = grow (w.drewN q) os' := by
  obtain ⟨a, b⟩ := x
  obtain ⟨c, d⟩ := y
  obtain ⟨r, hr⟩ : ∃ r, r = cmpP (a, b) (c, d) := ⟨_, rfl⟩
  have c3 := fun g W h0 h1 => or_any g 2 (Lib.compareInt a c) (Lib.compareInt b d) W h0 h1
  have e3 : (if Lib.compareInt a c ≠ 0 then Lib.compareInt a c else Lib.compareInt b d) = r := by rw [hr]; rfl
  rw [e3] at c3
  rw [← hr]
  have C3 := hide c3
  simp only
  clear c3 hr e3
  go_enter Tryz.func62, Tryz.ntmps62
  go_wp2_with fail
  generalize hW1 : (w.alloc (Obj.cells #[.int .i64 a, .int .i64 b] 77)).alloc (Obj.cells #[.int .i64 c, .int .i64 d] 77) = W1
  have g1 : W1.heap[w.heap.size]? = some (.cells #[.int .i64 a, .int .i64 b] 77 (0, 0)) := by
    rw [← hW1, Lib.alloc_old _ _ _ (by simp)]
    exact heap_alloc_new _ _
  have g2 : W1.heap[w.heap.size + 1]? = some (.cells #[.int .i64 c, .int .i64 d] 77 (0, 0)) := by
    rw [← hW1]
    have := heap_alloc_new (w.alloc (Obj.cells #[.int .i64 a, .int .i64 b] 77)) (Obj.cells #[.int .i64 c, .int .i64 d] 77)
    simpa using this
  have k1 := cell_here g1 (j := 0) (v := .int .i64 a) rfl
  have k2 := cell_here g1 (j := 1) (v := .int .i64 b) rfl
  have k3 := cell_here g2 (j := 0) (v := .int .i64 c) rfl
  have k4 := cell_here g2 (j := 1) (v := .int .i64 d) rfl
  have HW := hide hW1
  have g3 : ((W1.alloc (.cells #[.int .i64 (Lib.compareInt a c), .int .i64 (Lib.compareInt b d)] 3)).drew).heap[W1.heap.size]? = some (.cells #[.int .i64 (Lib.compareInt a c), .int .i64 (Lib.compareInt b d)] 3 (0, 0)) := heap_alloc_new _ _
  have C4 := hide (C3.out W1.heap.size _ (cell_here g3 (j := 0) rfl) (cell_here g3 (j := 1) rfl))
  clear g1 g2 hW1 g3 C3
  go_region_held3 (fun w' => w'.cell? ⟨w.heap.size, 0, none⟩ = some (.int .i64 a) ∧ w'.cell? ⟨w.heap.size, 1, none⟩ = some (.int .i64 b) ∧ w'.cell? ⟨w.heap.size + 1, 0, none⟩ = some (.int .i64 c) ∧ w'.cell? ⟨w.heap.size + 1, 1, none⟩ = some (.int .i64 d)) (go_keep) (first
    | (go_at_call 97; refine (Tryz.cmp_Compare_int _ _ _).mono ?_; rintro e w' ⟨rfl, rfl⟩)
    | (go_at_call 96; refine C4.out.mono ?_; rintro e w' ⟨rfl, rfl⟩))
  go_wp2
  go_ret
  refine ⟨rfl, 1, #[.cells #[.int .i64 a, .int .i64 b] 77] ++ #[.cells #[.int .i64 c, .int .i64 d] 77] ++ #[.cells #[.int .i64 (Lib.compareInt a c), .int .i64 (Lib.compareInt b d)] 3], ?_⟩
  rw [← HW.out, alloc_eq_grow, alloc_eq_grow, alloc_eq_grow, grow_grow, grow_grow]
  rfl
end Go.Proofs.YtkiindkoiomieaaGreatDoor
end

section
/-
  P4: pairs that are the same; slices.Compact of pairs.
-/
namespace Go.Proofs.YtkiindkoiomieaaGreatDoor
open Go.RowKit Go.Lib Go.Sort

theorem Tryz.info3 : (Tryz.prog.info? 3).map (fun i => (i.zero, i.size, i.bytes)) = some (some (.int .i64 0), 1, 8) := by kernel_rfl
theorem Tryz.cells3 : Tryz.prog.cellsOf 3 = 1 := by kernel_rfl

set_option maxRecDepth 100000 in
theorem eqIn_run (a b c d : Int) (w : World) : (Op.equalIn 10000 77 (.agg #[.int .i64 a, .int .i64 b]) (.agg #[.int .i64 c, .int .i64 d])).run Tryz.prog w = .ok (a == c && b == d) w := by
  obtain ⟨i0, hi, hz0, hz1, hz2⟩ := info_parts Tryz.info3
  rw [show (10000 : Nat) = 9999 + 1 from rfl, run_equalIn_array w 9999 _ _ Tryz.underlying77 hi, Tryz.cells3, show List.range 2 = [0, 1] from rfl]
  have u3 := Tryz.underlying3
  have a3 := Tryz.isAgg3
  have z3 := Tryz.sizeOf3
  rw [show (9999 : Nat) = 9998 + 1 from rfl]
  simp only [Op.eqItems, Sem.run_bind]
  go_simp
  by_cases h1 : a = c <;> by_cases h2 : b = d <;> simp [h1, h2]

theorem eqP_run (a b c d : Int) (w : World) : Sem.run Tryz.prog (binOp .eql 77 (.agg #[.int .i64 a, .int .i64 b]) (.agg #[.int .i64 c, .int .i64 d])) w = .ok (.bool (a == c && b == d)) w := by
  rw [run_eql_struct, eqIn_run]
  rfl
theorem neP_run (a b c d : Int) (w : World) : Sem.run Tryz.prog (binOp .neq 77 (.agg #[.int .i64 a, .int .i64 b]) (.agg #[.int .i64 c, .int .i64 d])) w = .ok (.bool (!(a == c && b == d))) w := by
  rw [run_neq_struct, eqIn_run]
  rfl
theorem gdP_run (op : BinOp) (x y : Operand) (xs ys : Array Value) (w : World) : Sem.run Tryz.prog (eqGuard op 77 x y (.agg xs) (.agg ys)) w = .ok () w := run_eqGuard_agg w op _ x y xs ys (by kernel_rfl)

/-- A row of pairs lies in a block. -/
def Lies (w : World) (g : Nat) (d : Array (Int × Int)) : Prop :=
  ∃ cur, w.heap[g]? = some (.cells cur 77 (0, 0)) ∧ ∀ j, j < d.size → cur[j * 2]? = some (.int .i64 d[j]!.1) ∧ cur[j * 2 + 1]? = some (.int .i64 d[j]!.2)

theorem Lies.cell {w : World} {g : Nat} {d : Array (Int × Int)} (h : Lies w g d) {j : Nat} (hj : j < d.size) : w.cell? ⟨g, j * 2, none⟩ = some (.int .i64 d[j]!.1) ∧ w.cell? ⟨g, j * 2 + 1, none⟩ = some (.int .i64 d[j]!.2) := by
  obtain ⟨cur, h1, h2⟩ := h
  exact ⟨cell_here h1 (h2 j hj).1, cell_here h1 (h2 j hj).2⟩

theorem Lies.frozen {w : World} {g : Nat} {d : Array (Int × Int)} (h : Lies w g d) (k : Nat) : w.frozen? ⟨g, k, none⟩ = false := by
  obtain ⟨cur, h1, _⟩ := h
  exact frozen_of_row w g k _ _ h1

theorem Lies.lt {w : World} {g : Nat} {d : Array (Int × Int)} (h : Lies w g d) : g < w.heap.size := by
  obtain ⟨cur, h1, _⟩ := h
  exact heap_lt0 h1

theorem Lies.kept {w w' : World} {g : Nat} {d : Array (Int × Int)} (h : Lies w g d) (hg : w'.heap[g]? = w.heap[g]?) : Lies w' g d := by
  obtain ⟨cur, h1, h2⟩ := h
  exact ⟨cur, hg.trans h1, h2⟩

theorem Lies.set {w : World} {g : Nat} {d : Array (Int × Int)} (h : Lies w g d) {i : Nat} (hi : i < d.size) (a b : Int) :
    Lies ((w.setCell ⟨g, i * 2, none⟩ (.int .i64 a)).setCell ⟨g, i * 2 + 1, none⟩ (.int .i64 b)) g (d.setIfInBounds i (a, b)) := by
  obtain ⟨cur, h1, h2⟩ := h
  have e1 := heap_setCell_same w g (i * 2) cur _ (.int .i64 a) h1
  have e2 := heap_setCell_same _ g (i * 2 + 1) _ _ (.int .i64 b) e1
  refine ⟨_, e2, fun j hj => ?_⟩
  rw [Array.size_setIfInBounds] at hj
  have hb : i * 2 < cur.size ∧ i * 2 + 1 < cur.size := ⟨(Array.getElem?_eq_some_iff.1 (h2 i hi).1).1, (Array.getElem?_eq_some_iff.1 (h2 i hi).2).1⟩
  by_cases hji : j = i
  · subst hji
    rw [getElem!_set_same d j _ hj]
    constructor
    · rw [Array.getElem?_setIfInBounds, if_neg (by omega), Array.getElem?_setIfInBounds, if_pos rfl, if_pos hb.1]
    · rw [Array.getElem?_setIfInBounds, if_pos rfl, if_pos (by rw [Array.size_setIfInBounds]; exact hb.2)]
  · rw [getElem!_set_other d i j _ hji]
    constructor
    · rw [Array.getElem?_setIfInBounds, if_neg (by omega), Array.getElem?_setIfInBounds, if_neg (by omega)]
      exact (h2 j hj).1
    · rw [Array.getElem?_setIfInBounds, if_neg (by omega), Array.getElem?_setIfInBounds, if_neg (by omega)]
      exact (h2 j hj).2

theorem setCells_heap (g : Nat) (t : TypeId) : ∀ (vs : List Value) (o : Nat) (w : World) (cur : Array Value), w.heap[g]? = some (.cells cur t (0, 0)) →
    ∃ cur', (w.setCells g o vs).heap[g]? = some (.cells cur' t (0, 0)) ∧ ∀ i, i < o → cur'[i]? = cur[i]?
  | [], _, _, cur, h => ⟨cur, h, fun _ _ => rfl⟩
  | v :: vs, o, w, cur, h => by
    obtain ⟨cur', h1, h2⟩ := setCells_heap g t vs (o + 1) (w.setCell ⟨g, o, none⟩ v) _ (heap_setCell_same w g o cur t v h)
    refine ⟨cur', h1, fun i hi => ?_⟩
    rw [h2 i (by omega), Array.getElem?_setIfInBounds, if_neg (by omega)]

theorem grown_setCell (w : World) (g o : Nat) (v : Value) : w.grownBy (w.setCell ⟨g, o, none⟩ v) (some g) := by
  refine ⟨rfl, rfl, rfl, by simp, fun k hk hne => ?_⟩
  exact heap_setCell_other _ _ _ _ (fun e => hne (by rw [e]))

theorem grown_trans {a b c : World} {row : Option Nat} (h : a.grownBy b row) (h' : b.grownBy c row) : a.grownBy c row :=
  ⟨h'.os.trans h.os, h'.tape.trans h.tape, h'.output.trans h.output, Nat.le_trans h.size h'.size, fun k hk hne => (h'.block k (Nat.lt_of_lt_of_le hk h.size) hne).trans (h.block k hk hne)⟩

theorem grown_setCells (g : Nat) : ∀ (vs : List Value) (o : Nat) (w : World), w.grownBy (w.setCells g o vs) (some g)
  | [], _, _ => ⟨rfl, rfl, rfl, Nat.le_refl _, fun _ _ _ => rfl⟩
  | v :: vs, o, w => grown_trans (grown_setCell w g o v) (grown_setCells g vs (o + 1) _)

theorem Lies.clear {w : World} {g k : Nat} {d e : Array (Int × Int)} (h : Lies w g d) (vs : List Value) (hk : k ≤ d.size) (he : e.size = k) (hl : ∀ j, j < k → e[j]! = d[j]!) : Lies (w.setCells g (k * 2) vs) g e := by
  obtain ⟨cur, h1, h2⟩ := h
  obtain ⟨cur', h3, h4⟩ := setCells_heap g _ vs (k * 2) w cur h1
  refine ⟨cur', h3, fun j hj => ?_⟩
  rw [h4 _ (by omega), h4 _ (by omega), hl j (by omega)]
  exact h2 j (by omega)

theorem run_clear_pairs (w : World) (ty : TypeId) (g k n c : Nat) (hn : 0 < n) (hc : ∀ j, j < n * 2 → (w.cell? ⟨g, k + j, none⟩).isSome = true) (hf : ∀ j, w.frozen? ⟨g, j, none⟩ = false) :
    ∃ vs, (Builtin.clear_ #[75] ty #[.slice (some ⟨g, k, none⟩) n c]).run Tryz.prog w = .ok (.tuple #[]) (w.setCells g k vs) := by
  have hz := Tryz.zeroValue77
  refine ⟨(Builtin.zeroCells #[.int .i64 0, .int .i64 0] n).toList, ?_⟩
  have hlen : (Builtin.zeroCells #[.int .i64 0, .int .i64 0] n).toList.length = n * 2 := by simp [Builtin.zeroCells]
  have hst := run_storeCells_cells (P := Tryz.prog) g k (Builtin.zeroCells #[.int .i64 0, .int .i64 0] n).toList 0 w (fun j hj => hc j (by omega)) (fun j _ => hf _) (fun v hv => by
    simp only [Builtin.zeroCells, Array.toList_map, List.mem_map] at hv
    obtain ⟨i, _, rfl⟩ := hv
    have : i % 2 < 2 := Nat.mod_lt _ (by omega)
    rcases Nat.lt_or_ge (i % 2) 1 with h | h
    · have : i % 2 = 0 := by omega
      simp [this, Value.oneCell']
    · have : i % 2 = 1 := by omega
      simp [this, Value.oneCell'])
  simp only [Nat.add_zero] at hst
  obtain ⟨m, rfl⟩ : ∃ m, n = m + 1 := ⟨n - 1, by omega⟩
  simp [Builtin.clear_, run_underlying Tryz.underlying75, hz, Value.cells, hst]

set_option maxHeartbeats 2000000 in
set_option maxRecDepth 100000 in
theorem compact_any (g cap : Nat) (d : Array (Int × Int)) (w : World) (hsz : d.size ≤ 500) (hcap : d.size ≤ cap) (hc2 : cap ≤ maxLen) (hL : Lies w g d) :
    Calls Tryz.prog 141 #[.slice (some ⟨g, 0, none⟩) d.size cap] w fun e w' => e = .returned (.slice (some ⟨g, 0, none⟩) (compactUpTo d d.size).length cap) ∧ Lies w' g (compactUpTo d d.size).toArray ∧ w.grownBy w' (some g) := by
  have heq := eqP_run
  have hne := neP_run
  have hgd := gdP_run
  unfold maxLen at hc2
  have same : (∀ j, j < d.size → keeps d j = true) → compactUpTo d d.size = d.toList := fun hall => by rw [compactUpTo_all d _ hall, range_map_get]
  have HS := hide same
  have HL := hide hL
  clear same hL
  by_cases h2 : d.size < 2
  · go_enter Tryz.func141, Tryz.ntmps141
    go_wp2
    go_ret
    have e := HS.out (fun j hj => keeps_lt_one d j (by omega))
    rw [e]
    exact ⟨rfl, HL.out, ⟨rfl, rfl, rfl, Nat.le_refl _, fun _ _ _ => rfl⟩⟩
  · go_enter Tryz.func141, Tryz.ntmps141
    go_wp2
    go_loopw [3] (fun kv wr => ∃ k q : Nat, 1 ≤ k ∧ k ≤ d.size ∧ kv = .int .i64 k ∧ wr = w.drewN q ∧ Hid (∀ j, j < k → keeps d j = true)) (fun kv _ => d.size - (intOf kv).toNat)
    case atStart => exact ⟨1, 0, Nat.le_refl _, by omega, rfl, rfl, hide (keeps_lt_one d)⟩
    case round =>
      obtain ⟨k, q, hk1, hk, rfl, rfl, HK⟩ := hrel
      by_cases hlt : k < d.size
      · obtain ⟨c1, c2⟩ := HL.out.cell hlt
        obtain ⟨c3, c4⟩ := HL.out.cell (j := k - 1) (by omega)
        generalize hx : d[k]! = x at c1 c2
        generalize hy : d[k - 1]! = y at c3 c4
        obtain ⟨x1, x2⟩ := x
        obtain ⟨y1, y2⟩ := y
        simp only at c1 c2 c3 c4
        have B := hide (And.intro hx hy)
        clear hx hy
        by_cases hdup : x1 = y1 ∧ x2 = y2
        · obtain ⟨rfl, rfl⟩ := hdup
          have t1 : (x1 == x1 && x2 == x2) = true := by simp
          go_wp2_with fail
          go_quiet (fail)
          go_wp2
          clear c1 c2 c3 c4
          have hI0 := CompInv.start HK.out (keeps_neg (by omega) (by rw [B.out.1, B.out.2]))
          have HI0 := hide hI0
          clear hI0
          go_loopw [3, 5] (fun kv k2v wr => ∃ (kk k2 : Nat) (dk : Array (Int × Int)), kv = .int .i64 kk ∧ k2v = .int .i64 k2 ∧ 1 ≤ k2 ∧ k + k2 ≤ d.size ∧ Hid (Lies wr g dk) ∧ w.grownBy wr (some g) ∧ Hid (CompInv d (k + k2) kk dk)) (fun _ k2v _ => d.size - (k + (intOf k2v).toNat))
          case atStart => exact ⟨k, 1, d, rfl, rfl, Nat.le_refl _, by omega, HL, ⟨rfl, rfl, rfl, Nat.le_refl _, fun _ _ _ => rfl⟩, HI0⟩
          case round =>
            obtain ⟨kk, k2, dk, rfl, rfl, h1, hle, HLk, hgr, HI⟩ := hrel
            have hkk := HI.out.lt
            have hds := HI.out.size
            by_cases hlt2 : k + k2 < d.size
            · obtain ⟨m1, m2⟩ := HLk.out.cell (j := k + k2) (by omega)
              obtain ⟨m3, m4⟩ := HLk.out.cell (j := k + k2 - 1) (by omega)
              obtain ⟨m5, m6⟩ := HLk.out.cell (j := kk) (by omega)
              have f5 := HLk.out.frozen (kk * 2)
              have f6 := HLk.out.frozen (kk * 2 + 1)
              rw [HI.out.high (k + k2) (by omega)] at m1 m2
              rw [HI.out.high (k + k2 - 1) (by omega)] at m3 m4
              rw [show (k + k2) * 2 = k * 2 + k2 * 2 by omega] at m1 m2
              rw [show (k + k2 - 1) * 2 = k * 2 + (k2 - 1) * 2 by omega] at m3 m4
              generalize hu : d[k + k2]! = u at m1 m2
              generalize hv : d[k + k2 - 1]! = v at m3 m4
              generalize dk[kk]! = old at m5 m6
              obtain ⟨u1, u2⟩ := u
              obtain ⟨v1, v2⟩ := v
              simp only at m1 m2 m3 m4
              have C := hide (And.intro hu hv)
              clear hu hv
              by_cases huv : u1 = v1 ∧ u2 = v2
              · obtain ⟨rfl, rfl⟩ := huv
                have t2 : (!(u1 == u1 && u2 == u2)) = false := by simp
                go_wp2_with fail
                go_quiet (fail)
                go_wp2
                go_roundw
                case rel => exact ⟨kk, k2 + 1, dk, rfl, by go_num, by omega, by omega, HLk, ⟨hgr.os, hgr.tape, hgr.output, hgr.size, hgr.block⟩, hide (HI.out.skip (keeps_neg (by omega) (by rw [C.out.1, C.out.2])))⟩
                case measure => simp [intOf]; omega
              · have t2 : (!(u1 == v1 && u2 == v2)) = true := by rw [Bool.not_eq_true']; simpa using huv
                go_wp2_with fail
                go_quiet (fail)
                go_wp2
                go_roundw
                case rel =>
                  have hLd : Lies (wr.drewN nq) g dk := HLk.out
                  have hgd2 : w.grownBy (wr.drewN nq) (some g) := ⟨hgr.os, hgr.tape, hgr.output, hgr.size, hgr.block⟩
                  have hkp := HI.out.keep hlt2 (keeps_pos (by rw [C.out.1, C.out.2]; intro h; exact huv (by simpa using h)))
                  rw [C.out.1] at hkp
                  exact ⟨kk + 1, k2 + 1, dk.setIfInBounds kk (u1, u2), by go_num, by go_num, by omega, by omega, hide (hLd.set (by omega) u1 u2), grown_trans hgd2 (grown_trans (grown_setCell _ _ _ _) (grown_setCell _ _ _ _)), hide hkp⟩
                case measure => simp [intOf]; omega
            · have hend : k + k2 = d.size := by omega
              have hsome : ∀ j, j < (d.size - kk) * 2 → (wr.cell? ⟨g, kk * 2 + j, none⟩).isSome = true := fun j hj => by
                obtain ⟨q1, q2⟩ := HLk.out.cell (j := (kk * 2 + j) / 2) (by omega)
                rcases Nat.mod_two_eq_zero_or_one j with h | h
                · rw [show kk * 2 + j = (kk * 2 + j) / 2 * 2 by omega, q1]
                  rfl
                · rw [show kk * 2 + j = (kk * 2 + j) / 2 * 2 + 1 by omega, q2]
                  rfl
              obtain ⟨vs, hcl⟩ := run_clear_pairs wr 0 g (kk * 2) (d.size - kk) (cap - kk) (by omega) hsome HLk.out.frozen
              clear hsome
              go_wp2
              go_ret
              have hI := HI.out
              rw [hend] at hI
              refine ⟨by rw [hI.len]; rfl, HLk.out.clear vs (by omega) (by simpa using hI.len) (fun j hj => ?_), grown_trans hgr (grown_setCells g vs _ _)⟩
              have h3 := hI.low j hj
              have h4 : j < (compactUpTo d d.size).toArray.size := by simp; rw [hI.len]; exact hj
              rw [getElem!_pos _ j h4]
              have h5 := List.getElem?_eq_some_iff.1 h3
              obtain ⟨_, h6⟩ := h5
              simpa using h6
        · have t1 : (x1 == y1 && x2 == y2) = false := by simpa using hdup
          go_wp2_with fail
          go_quiet (fail)
          go_wp2
          go_roundw
          case rel =>
            refine ⟨k + 1, _, by omega, by omega, by go_num, rfl, hide fun j hj => ?_⟩
            by_cases e : j = k
            · subst e
              exact keeps_pos (by rw [B.out.1, B.out.2]; intro h; exact hdup (by simpa using h))
            · exact HK.out j (by omega)
          case measure => simp [intOf]; omega
      · have hkd : k = d.size := by omega
        go_wp2
        go_ret
        have e := HS.out (by rw [← hkd]; exact HK.out)
        rw [e]
        exact ⟨rfl, HL.out, ⟨rfl, rfl, rfl, Nat.le_refl _, fun _ _ _ => rfl⟩⟩
end Go.Proofs.YtkiindkoiomieaaGreatDoor
end

section
/-
  P4: slices.SortFunc and slices.Clone of pairs, by their contracts.
-/
namespace Go.Proofs.YtkiindkoiomieaaGreatDoor
open Go.RowKit Go.Lib Go.Sort

theorem Lies.holds {w : World} {g : Nat} {d : Array (Int × Int)} (h : Lies w g d) : HoldsK encP 2 w g 0 d := by
  intro j hj
  rw [size_flatK] at hj
  rw [get_flatK _ _ _ _ hj, Nat.zero_add]
  refine ⟨?_, h.frozen j⟩
  have hc := h.cell (j := j / 2) (by omega)
  rcases Nat.mod_two_eq_zero_or_one j with e | e
  · rw [e, show (⟨g, j, none⟩ : Addr) = ⟨g, j / 2 * 2, none⟩ by rw [show j / 2 * 2 = j by omega], hc.1]
    rfl
  · rw [e, show (⟨g, j, none⟩ : Addr) = ⟨g, j / 2 * 2 + 1, none⟩ by rw [show j / 2 * 2 + 1 = j by omega], hc.2]
    rfl

theorem sortWorld_heap {w : World} {g : Nat} {cur : Array Value} {t : TypeId} (h : w.heap[g]? = some (.cells cur t (0, 0))) (n : Nat) (d' : Array (Int × Int)) (os : Array Obj) :
    (∃ cur', (sortWorldK encP 2 w g 0 n d' os).heap[g]? = some (.cells cur' t (0, 0))) ∧ w.grownBy (sortWorldK encP 2 w g 0 n d' os) (some g) := by
  have hg := heap_lt0 h
  have hold : ∀ k, k < w.heap.size → (sortWorldK encP 2 w g 0 n d' os).heap[k]? = (putRowK encP 2 (Sort.ahead w n) g 0 d').heap[k]? := fun k hk => by
    unfold sortWorldK grow
    simp only
    rw [Array.getElem?_append_left]
    simp [putRowK, putRow, mapBlock, Sort.ahead]
    exact hk
  constructor
  · refine ⟨putCells id 0 (flatK encP 2 d') cur, ?_⟩
    rw [hold g hg]
    simp [putRowK, putRow, mapBlock, Sort.ahead, Array.getElem?_modify, h, onCells]
  · refine ⟨rfl, rfl, rfl, ?_, fun k hk hne => ?_⟩
    · simp [sortWorldK, grow, putRowK, putRow, mapBlock, Sort.ahead]
    · rw [hold k hk]
      have : g ≠ k := fun e => hne (by rw [e])
      simp [putRowK, putRow, mapBlock, Sort.ahead, Array.getElem?_modify, this]

theorem Lies.sorted {w : World} {g : Nat} {d : Array (Int × Int)} (h : Lies w g d) (n : Nat) (d' : Array (Int × Int)) (os : Array Obj) (hs : d'.size = d.size) : Lies (sortWorldK encP 2 w g 0 n d' os) g d' := by
  have hH := h.holds
  have hlt := h.lt
  obtain ⟨cur, h1, _⟩ := h
  obtain ⟨⟨cur', h2⟩, _⟩ := sortWorld_heap h1 n d' os
  have h3 : HoldsK encP 2 (sortWorldK encP 2 w g 0 n d' os) g 0 d' := by
    unfold sortWorldK
    refine holdsK_grow _ _ _ _ _ _ _ (by simpa [putRowK, putRow, mapBlock, Sort.ahead] using hlt) ?_
    exact holdsK_putRowK _ _ _ _ _ d _ (holdsK_ahead _ _ _ _ _ _ _ hH) hs
  refine ⟨cur', h2, fun j hj => ?_⟩
  have a := (h3.cell (i := j) (c := 0) hj (by omega)).1
  have b := (h3.cell (i := j) (c := 1) hj (by omega)).1
  rw [Nat.zero_add, Nat.add_zero, cell_of_row _ g _ _ _ _ h2] at a
  rw [Nat.zero_add, cell_of_row _ g _ _ _ _ h2] at b
  exact ⟨a, b⟩

theorem cmp_lays (blk off size : Nat) (w : World) : CmpLays Tryz.prog 62 #[] encP 2 cmpP blk off size w :=
  fun _ _ _ _ x y => compare_any x y _

/-- Sorted as a dictionary is. -/
theorem sort_any (g cap : Nat) (d : Array (Int × Int)) (w : World) (hsz : d.size ≤ 500) (hL : Lies w g d) :
    Calls Tryz.prog 61 #[.slice (some ⟨g, 0, none⟩) d.size cap, .func (.func 62) #[] #[]] w fun e w' => e = .returned (.tuple #[]) ∧ ∃ d', d'.size = d.size ∧ d'.toList.Perm d.toList ∧ (∀ i j, i < j → j < d.size → ltP d'[j]! d'[i]! = false) ∧ Lies w' g d' ∧ w.grownBy w' (some g) := by
  have eg : ∀ args w, (callFunc 62 args).run Tryz.prog w = .ok (.enter 62 args) w := enters_of Tryz.func62 (by kernel_rfl) rfl
  have hcon := AnyQ.slices_SortFunc Tryz.sortPair 2 Tryz.isAgg77 Tryz.sizeOf77 encP (fun _ => rfl) (fun x v hv => by simp [encP] at hv; rcases hv with rfl | rfl <;> rfl) cmpP swoP 62 #[] g 0 cap d w eg (cmp_lays g 0 d.size w) hL.holds hL.lt (by omega)
  change Calls Tryz.prog 61 _ _ _ at hcon
  refine hcon.mono ?_
  rintro e w' ⟨he, d', n, os, hp, hs, rfl⟩
  have hsize : d'.size = d.size := hp.1
  refine ⟨he, d', hsize, ?_, fun i j hij hj => ?_, hL.sorted n d' os hsize, ?_⟩
  · have := hp.2.2
    rwa [Array.extract_eq_self_of_le (by omega), Array.extract_eq_self_of_le (Nat.le_refl _)] at this
  · rw [← lt_cmpP]
    exact hs i j (Nat.zero_le _) hij hj
  · obtain ⟨cur, h1, _⟩ := hL
    exact (sortWorld_heap h1 n d' os).2
end Go.Proofs.YtkiindkoiomieaaGreatDoor
end

section
/-
  Rows of numbers, pairs, bytes and truths that are made at one stroke.
-/
namespace Go.Proofs.YtkiindkoiomieaaGreatDoor
open Go.RowKit Go.Lib Go.Sort

/-- Numbers as cells. -/
def cellsN (l : List Nat) : Array Value := (l.map fun x : Nat => Value.int .i64 (x : Int)).toArray
/-- Truths as cells. -/
def cellsT (l : List Bool) : Array Value := (l.map Value.bool).toArray
/-- Bytes as cells. -/
def cellsY (l : List UInt8) : Array Value := (l.map fun b => Value.int .u8 (b.toNat : Int)).toArray

/-- The first k of n: as f says; zeros behind them. -/
def fill (f : Nat → Nat) (n k : Nat) : List Nat := (List.range n).map fun j => if j < k then f j else 0

theorem fill_length (f : Nat → Nat) (n k : Nat) : (fill f n k).length = n := by simp [fill]
theorem fill_at (f : Nat → Nat) {n k j : Nat} (h : j < n) : (fill f n k)[j]? = some (if j < k then f j else 0) := by simp [fill, h]
theorem fill_zero (f : Nat → Nat) (n : Nat) : fill f n 0 = List.replicate n 0 := by
  apply List.ext_getElem
  · simp [fill]
  · intro i h1 h2
    simp [fill]
theorem fill_set (f : Nat → Nat) (n k : Nat) : (fill f n k).set k (f k) = fill f n (k + 1) := by
  apply List.ext_getElem
  · simp [fill]
  · intro i h1 h2
    simp only [fill, List.getElem_set, List.getElem_map, List.getElem_range]
    by_cases hk : k = i
    · subst hk
      simp
    · rw [if_neg hk]
      by_cases h3 : i < k
      · rw [if_pos h3, if_pos (by omega)]
      · rw [if_neg h3, if_neg (by omega)]

theorem cellsN_set (l : List Nat) (k x : Nat) : (cellsN l).setIfInBounds k (.int .i64 (x : Int)) = cellsN (l.set k x) := by simp [cellsN, List.map_set]
theorem cellsN_at {l : List Nat} {j x : Nat} (h : l[j]? = some x) : (cellsN l)[j]? = some (.int .i64 (x : Int)) := by simp [cellsN, h]
theorem cellsT_set (l : List Bool) (k : Nat) (x : Bool) : (cellsT l).setIfInBounds k (.bool x) = cellsT (l.set k x) := by simp [cellsT, List.map_set]
theorem cellsT_at {l : List Bool} {j : Nat} {x : Bool} (h : l[j]? = some x) : (cellsT l)[j]? = some (.bool x) := by simp [cellsT, h]
theorem cellsY_set (l : List UInt8) (k : Nat) (x : UInt8) : (cellsY l).setIfInBounds k (.int .u8 (x.toNat : Int)) = cellsY (l.set k x) := by simp [cellsY, List.map_set]
theorem cellsY_at {l : List UInt8} {j : Nat} {x : UInt8} (h : l[j]? = some x) : (cellsY l)[j]? = some (.int .u8 (x.toNat : Int)) := by simp [cellsY, h]

theorem Tryz.info5' : (Tryz.prog.info? 5).map (fun i => (i.zero, i.size, i.bytes)) = some (some (.int .u8 0), 1, 1) := by kernel_rfl
theorem Tryz.info4' : (Tryz.prog.info? 4).map (fun i => (i.zero, i.size, i.bytes)) = some (some (.bool false), 1, 1) := by kernel_rfl
theorem Tryz.infoPair : (Tryz.prog.info? 77).map (fun i => (i.zero, i.size, i.bytes)) = some (some (.agg #[.int .i64 0, .int .i64 0]), 2, 16) := by kernel_rfl

theorem make_ints (n : Nat) (hn : n ≤ 500) (W : World) : (Instr.makeSlice 23 (.int .i64 (n : Int)) (.int .i64 (n : Int))).run Tryz.prog W = .ok (.slice (some ⟨W.heap.size, 0, none⟩) n n) (W.alloc (.cells (cellsN (List.replicate n 0)) 3)) := by
  obtain ⟨i0, hi, hz0, hz1, hz2⟩ := info_parts Tryz.info3
  have h := run_make (P := Tryz.prog) W 23 3 i0 (.int .i64 0) Tryz.underlying23 hi hz0 .i64 .i64 n n (by omega) (by omega) (by rw [hz2]; omega) (by omega)
  have e : madeCells (Value.int .i64 0).cells ((n : Int).toNat * i0.size) = cellsN (List.replicate n 0) := by
    rw [hz1]
    apply Array.ext'
    show (madeCells #[Value.int .i64 0] _).toList = _
    rw [toList_madeCells_one]
    simp [cellsN]
  rw [e] at h
  simpa using h

theorem make_bytes (n : Nat) (hn : n ≤ 500) (W : World) : (Instr.makeSlice 81 (.int .i64 (n : Int)) (.int .i64 (n : Int))).run Tryz.prog W = .ok (.slice (some ⟨W.heap.size, 0, none⟩) n n) (W.alloc (.cells (cellsY (List.replicate n 0)) 5)) := by
  obtain ⟨i0, hi, hz0, hz1, hz2⟩ := info_parts Tryz.info5'
  have h := run_make (P := Tryz.prog) W 81 5 i0 (.int .u8 0) Tryz.underlying81 hi hz0 .i64 .i64 n n (by omega) (by omega) (by rw [hz2]; omega) (by omega)
  have e : madeCells (Value.int .u8 0).cells ((n : Int).toNat * i0.size) = cellsY (List.replicate n 0) := by
    rw [hz1]
    apply Array.ext'
    show (madeCells #[Value.int .u8 0] _).toList = _
    rw [toList_madeCells_one]
    simp [cellsY]
  rw [e] at h
  simpa using h

theorem make_truths (n : Nat) (hn : n ≤ 500) (W : World) : (Instr.makeSlice 106 (.int .i64 (n : Int)) (.int .i64 (n : Int))).run Tryz.prog W = .ok (.slice (some ⟨W.heap.size, 0, none⟩) n n) (W.alloc (.cells (cellsT (List.replicate n false)) 4)) := by
  obtain ⟨i0, hi, hz0, hz1, hz2⟩ := info_parts Tryz.info4'
  have h := run_make (P := Tryz.prog) W 106 4 i0 (.bool false) Tryz.underlying106 hi hz0 .i64 .i64 n n (by omega) (by omega) (by rw [hz2]; omega) (by omega)
  have e : madeCells (Value.bool false).cells ((n : Int).toNat * i0.size) = cellsT (List.replicate n false) := by
    rw [hz1]
    apply Array.ext'
    show (madeCells #[Value.bool false] _).toList = _
    rw [toList_madeCells_one]
    simp [cellsT]
  rw [e] at h
  simpa using h

/-- Zeros. -/
def zeroP (n : Nat) : Array (Int × Int) := Array.replicate n (0, 0)

theorem make_pairs (n : Nat) (hn : n ≤ 500) : ∃ cs : Array Value, (∀ W : World, (Instr.makeSlice 75 (.int .i64 (n : Int)) (.int .i64 (n : Int))).run Tryz.prog W = .ok (.slice (some ⟨W.heap.size, 0, none⟩) n n) (W.alloc (.cells cs 77))) ∧ (∀ W : World, W.heap.size < (W.alloc (.cells cs 77)).heap.size) ∧ ∀ W g, W.heap[g]? = some (.cells cs 77 (0, 0)) → Lies W g (zeroP n) := by
  obtain ⟨i0, hi, hz0, hz1, hz2⟩ := info_parts Tryz.infoPair
  refine ⟨madeCells (Value.agg #[.int .i64 0, .int .i64 0]).cells (n * 2), fun W => ?_, fun W => by simp, fun W g hg => ?_⟩
  · have h := run_make (P := Tryz.prog) W 75 77 i0 _ Tryz.underlying75 hi hz0 .i64 .i64 n n (by omega) (by omega) (by rw [hz2]; omega) (by omega)
    rw [hz1] at h
    simpa using h
  · refine ⟨_, hg, fun j hj => ?_⟩
    have hj' : j < n := by simpa [zeroP] using hj
    have hz : (zeroP n)[j]! = (0, 0) := by
      rw [getElem!_pos _ j hj]
      simp [zeroP]
    rw [hz]
    have e1 : j * 2 % 2 = 0 := by omega
    have e2 : (j * 2 + 1) % 2 = 1 := by omega
    have g1 : j * 2 < n * 2 := by omega
    have g2 : j * 2 + 1 < n * 2 := by omega
    constructor
    · simp [madeCells, Value.cells, g1]
    · simp [madeCells, Value.cells, g2, e2]
end Go.Proofs.YtkiindkoiomieaaGreatDoor
end

section
/-
  Plain mathematics of P4: the rank of a pair among different ones. Nothing of the program.
-/
namespace Go.Proofs.YtkiindkoiomieaaGreatDoor
open Go.RowKit Go.Lib Go.Sort

theorem ltP_iff (x y : Int × Int) : ltP x y = true ↔ x.1 < y.1 ∨ (x.1 = y.1 ∧ x.2 < y.2) := by
  unfold ltP
  simp

theorem ltP_false (x y : Int × Int) : ltP x y = false ↔ y.1 < x.1 ∨ (y.1 = x.1 ∧ y.2 ≤ x.2) := by
  rw [← Bool.not_eq_true, ltP_iff]
  omega

/-- Sorted. -/
def SrtP (d : Array (Int × Int)) : Prop := ∀ i j, i < j → j < d.size → ltP d[j]! d[i]! = false

theorem pair_ne {x y : Int × Int} (h : x ≠ y) : x.1 ≠ y.1 ∨ x.2 ≠ y.2 := by
  rcases Decidable.em (x.1 = y.1) with h1 | h1
  · exact .inr fun h2 => h (Prod.ext h1 h2)
  · exact .inl h1

theorem compact_strict {d : Array (Int × Int)} (h : SrtP d) : (compactUpTo d d.size).Pairwise fun a b => ltP a b = true := by
  unfold compactUpTo
  rw [List.pairwise_map]
  refine List.Pairwise.imp_of_mem ?_ (List.pairwise_lt_range.filter _)
  intro i j hi hj hij
  have hj1 := (List.mem_filter.1 hj).2
  have hj2 : j < d.size := List.mem_range.1 (List.mem_filter.1 hj).1
  simp only [keeps, decide_eq_true_eq] at hj1
  have hne : d[j]! ≠ d[j - 1]! := by
    rcases hj1 with h0 | h0
    · omega
    · exact h0
  have a := h (j - 1) j (by omega) hj2
  rw [ltP_false] at a
  have b := pair_ne hne
  rw [ltP_iff]
  by_cases hij' : i = j - 1
  · rw [hij']
    omega
  · have c := h i (j - 1) (by omega) (by omega)
    rw [ltP_false] at c
    omega

theorem compact_mem (d : Array (Int × Int)) : ∀ j, j < d.size → d[j]! ∈ compactUpTo d d.size := by
  intro j
  induction j with
  | zero =>
    intro hj
    unfold compactUpTo
    exact List.mem_map.2 ⟨0, List.mem_filter.2 ⟨List.mem_range.2 hj, by simp [keeps]⟩, rfl⟩
  | succ j ih =>
    intro hj
    by_cases hk : keeps d (j + 1) = true
    · unfold compactUpTo
      exact List.mem_map.2 ⟨j + 1, List.mem_filter.2 ⟨List.mem_range.2 hj, hk⟩, rfl⟩
    · have : d[j + 1]! = d[j]! := by
        simp only [keeps, decide_eq_true_eq] at hk
        have h2 : ¬ (d[j + 1]! ≠ d[j + 1 - 1]!) := fun h => hk (.inr h)
        exact Classical.not_not.1 h2
      rw [this]
      exact ih (by omega)

theorem compact_length (d : Array (Int × Int)) : (compactUpTo d d.size).length ≤ d.size := by
  unfold compactUpTo
  rw [List.length_map]
  have := List.length_filter_le (keeps d) (List.range d.size)
  simpa using this

theorem mem_get {d d' : Array (Int × Int)} (hp : d'.toList.Perm d.toList) {i : Nat} (hi : i < d.size) : ∃ j, j < d'.size ∧ d'[j]! = d[i]! := by
  have h1 : d[i]! ∈ d.toList := by
    rw [getElem!_pos d i hi]
    simp
  have h2 := hp.mem_iff.2 h1
  obtain ⟨j, hj, e⟩ := List.mem_iff_getElem.1 h2
  have hj' : j < d'.size := by simpa using hj
  exact ⟨j, hj', by rw [getElem!_pos d' j hj']; simpa using e⟩

theorem idx_strict {c : List (Int × Int)} (hc : c.Pairwise fun a b => ltP a b = true) {x y : Int × Int} (hx : x ∈ c) (hy : y ∈ c) : c.idxOf x < c.idxOf y ↔ ltP x y = true := by
  have lx := List.idxOf_lt_length_of_mem hx
  have ly := List.idxOf_lt_length_of_mem hy
  have ex : c[c.idxOf x] = x := List.getElem_idxOf lx
  have ey : c[c.idxOf y] = y := List.getElem_idxOf ly
  have hp := List.pairwise_iff_getElem.1 hc
  constructor
  · intro h
    have := hp _ _ lx ly h
    rwa [ex, ey] at this
  · intro h
    rcases Nat.lt_trichotomy (c.idxOf x) (c.idxOf y) with h1 | h1 | h1
    · exact h1
    · have e : x = y := by
        rw [← ex, ← ey]
        simp only [h1]
      subst e
      rw [ltP_iff] at h
      omega
    · have := hp _ _ ly lx h1
      rw [ex, ey] at this
      rw [ltP_iff] at this h
      omega

/-- Ranks: how many different ones stand ahead. -/
structure Ranks (d : Array (Int × Int)) (f : Nat → Nat) : Prop where
  lt : ∀ i, i < d.size → f i < d.size
  ord : ∀ i j, i < d.size → j < d.size → (f i < f j ↔ ltP d[i]! d[j]! = true)

theorem ranks_of {d d' : Array (Int × Int)} (hs : d'.size = d.size) (hp : d'.toList.Perm d.toList) (h : SrtP d') : Ranks d fun i => (compactUpTo d' d'.size).idxOf d[i]! := by
  have mem : ∀ i, i < d.size → d[i]! ∈ compactUpTo d' d'.size := fun i hi => by
    obtain ⟨j, hj, e⟩ := mem_get hp hi
    rw [← e]
    exact compact_mem d' j hj
  refine ⟨fun i hi => ?_, fun i j hi hj => idx_strict (compact_strict h) (mem i hi) (mem j hj)⟩
  have := List.idxOf_lt_length_of_mem (mem i hi)
  have := compact_length d'
  omega
end Go.Proofs.YtkiindkoiomieaaGreatDoor
end

section
/-
  P4: the walk of ranksOf: a map by pairs.
-/
namespace Go.Proofs.YtkiindkoiomieaaGreatDoor
open Go.RowKit Go.Lib Go.Sort Go.Maps

/-- A pair as a map's key. -/
def kp (x : Int × Int) : Lit := .string (keyBytes [.int .i64 x.1, .int .i64 x.2])

theorem Tryz.laidOut : laidOutB Tryz.prog = true := by kernel_rfl
theorem Tryz.rowPair : (77 : TypeId) < Tryz.prog.types.size := of_decide_eq_true (by kernel_rfl)
theorem Tryz.cellsPair : Tryz.prog.cellsOf 77 = 2 := by kernel_rfl
theorem Tryz.widePair : (match Tryz.prog.underlying 77 with | some (.array _ _) | some (.struct _) => true | _ => false) = true := by rw [Tryz.underlying77]
set_option maxRecDepth 100000 in
theorem law : Keyed Tryz.prog 77 := Keyed.of_law (deep_law_laid Tryz.laidOut (m := 2) (by omega) Tryz.rowPair (by kernel_rfl) Tryz.widePair)
theorem Tryz.keyPair : Tryz.prog.keyType 77 = true := by kernel_rfl

theorem pos_succ {n k : Nat} (h : k < n) : ∃ m, n = m + 1 := ⟨n - 1, by omega⟩

set_option maxRecDepth 100000 in
theorem key_mk (x : Int × Int) (h1 : (Lit.int .i64 x.1).wf = true) (h2 : (Lit.int .i64 x.2).wf = true) : keyOf Tryz.prog 77 (.agg #[.int .i64 x.1, .int .i64 x.2]) = some (kp x) := by
  have hf : (Value.agg #[.int .i64 x.1, .int .i64 x.2]).formed Tryz.prog 77 = true := by simp [Value.formed, Tryz.underlying77, Tryz.cellsPair]
  have hl : Tryz.prog.keyLits (Tryz.prog.types.size + 1) 77 [.int .i64 x.1, .int .i64 x.2] = some [.int .i64 x.1, .int .i64 x.2] := by
    obtain ⟨m, hm⟩ : ∃ m, Tryz.prog.types.size = m + 1 := pos_succ Tryz.rowPair
    rw [hm]
    simp [Program.keyLits, Tryz.underlying77, Tryz.cellsPair, Tryz.cells3, Tryz.underlying3, h1, h2, List.range, List.range.loop]
  unfold keyOf
  rw [Tryz.underlying77]
  simp only [Tryz.keyPair, hf, Bool.and_self, if_true]
  show Option.map _ (Tryz.prog.keyLits (Tryz.prog.types.size + 1) 77 [.int .i64 x.1, .int .i64 x.2]) = _
  rw [hl]
  rfl

theorem make_map (n : Int) (W : World) : (Instr.makeMap 151 (some (.int .i64 n))).run Tryz.prog W = .ok (.map (some W.heap.size)) (W.alloc (.map #[] 0)) := by
  simp [Instr.makeMap, run_underlying Tryz.underlying151, go_sem]

/-- What the map tells: of each of the first k its place. -/
def Tells (c : List (Int × Int)) (k : Nat) (D : DataW Unit) : Prop := ∀ j x, j < k → c[j]? = some x → D.atKey (kp x) (.lit (.int .i64 0)) = .lit (.int .i64 (j : Int))

/-- No number is too great for its kind. -/
def Wf (c : List (Int × Int)) : Prop := ∀ x ∈ c, (Lit.int .i64 x.1).wf = true ∧ (Lit.int .i64 x.2).wf = true

theorem Tells.next {c : List (Int × Int)} {k : Nat} {D : DataW Unit} {x : Int × Int} (h : Tells c k D) (hD : IsMap D) (hc : c.Pairwise fun a b => ltP a b = true) (hw : Wf c) (hx : c[k]? = some x) : Tells c (k + 1) (D.put (kp x) (.lit (.int .i64 (k : Int)))) := by
  intro j y hj hy
  have hxm := List.mem_of_getElem? hx
  have hym := List.mem_of_getElem? hy
  have kx := key_mk x (hw x hxm).1 (hw x hxm).2
  have ky := key_mk y (hw y hym).1 (hw y hym).2
  by_cases hjk : j = k
  · subst hjk
    rw [hx] at hy
    cases hy
    exact atKey_put_same hD (law.key kx) _ _
  · rw [atKey_put_other]
    · exact h j y (by omega) hy
    · intro e
      rw [e] at ky
      have := law.inj ky kx
      simp only [Value.agg.injEq, Array.mk.injEq, List.cons.injEq, Value.int.injEq, true_and, and_true] at this
      obtain ⟨hk1, ek⟩ := List.getElem?_eq_some_iff.1 hx
      obtain ⟨hj1, ej⟩ := List.getElem?_eq_some_iff.1 hy
      have hlt := List.pairwise_iff_getElem.1 hc j k hj1 hk1 (by omega)
      rw [ek, ej, ltP_iff] at hlt
      omega

theorem flat_one (d : Array (Int × Int)) : ∀ u ∈ (flatK encP 2 d).toList, u.oneCell' = true := by
  intro u hu
  obtain ⟨t, ht, rfl⟩ := List.mem_iff_getElem.1 hu
  have ht' : t < (flatK encP 2 d).size := by simpa using ht
  have e : (flatK encP 2 d).toList[t] = (flatK encP 2 d)[t]! := by
    rw [getElem!_pos _ t ht']
    simp
  rw [e, get_flatK _ _ _ _ (by simpa using ht')]
  rcases Nat.mod_two_eq_zero_or_one t with h | h <;> rw [h] <;> rfl

theorem clonePairs_any (g cap : Nat) (d : Array (Int × Int)) (w : World) (hsz : d.size ≤ 500) (hL : Lies w g d) :
    Calls Tryz.prog 140 #[.slice (some ⟨g, 0, none⟩) d.size cap] w fun e w' => ∃ g' cap', e = .returned (.slice (some ⟨g', 0, none⟩) d.size cap') ∧ d.size ≤ cap' ∧ cap' ≤ maxLen ∧ w.heap.size ≤ g' ∧ Lies w' g' d ∧ Below w.heap.size w w' := by
  obtain ⟨i0, hi, hz0, hz1, hz2⟩ := info_parts Tryz.infoPair
  have hH := hL.holds
  have hcon := AnyE.slices_Clone Tryz.clonePair i0 _ 2 16 hi hz0 hz1 hz2 rfl (by decide) Tryz.sizeOf77 g 0 d.size cap (flatK encP 2 d).toList w (by simp) (by unfold maxLen; omega) (by omega) (fun j u hj => ?_) (flat_one d)
  · change Calls Tryz.prog 140 _ _ _ at hcon
    refine hcon.mono ?_
    rintro e w' ⟨v', he, hown, hnil, hb⟩
    rcases hown.2 with ⟨h1, _⟩ | ⟨g', cap', cur, rfl, h3, h4, h5, h6, h7, h8⟩
    · exact absurd h1 hnil
    · refine ⟨g', cap', he, h5, h6, h3, ⟨cur, h4, fun j hj => ?_⟩, hb⟩
      have hk : ∀ t, t < d.size * 2 → cur[t]? = some ((encP d[t / 2]!)[t % 2]!) := fun t ht => by
        have : cur.toList[t]? = (flatK encP 2 d).toList[t]? := by
          rw [← h8, List.getElem?_take, if_pos ht]
        rw [Array.getElem?_toList, Array.getElem?_toList] at this
        rw [this, Array.getElem?_eq_getElem (by simpa using ht), ← get_flatK encP 2 d t ht, getElem!_pos _ t (by simpa using ht)]
      have a := hk (j * 2) (by omega)
      have b := hk (j * 2 + 1) (by omega)
      rw [show j * 2 / 2 = j by omega, show j * 2 % 2 = 0 by omega] at a
      rw [show (j * 2 + 1) / 2 = j by omega, show (j * 2 + 1) % 2 = 1 by omega] at b
      exact ⟨a, b⟩
  · have hj' : j < (flatK encP 2 d).size := by
      have := (List.getElem?_eq_some_iff.1 hj).1
      simpa using this
    have := (hH j hj').1
    rw [this, getElem!_pos _ j hj']
    rw [Array.getElem?_toList, Array.getElem?_eq_getElem hj'] at hj
    exact hj
end Go.Proofs.YtkiindkoiomieaaGreatDoor
end

section
/-
  P4: the walk of ranksOf.
-/
namespace Go.Proofs.YtkiindkoiomieaaGreatDoor
open Go.RowKit Go.Lib Go.Sort Go.Maps

/-- A row of numbers lies in a block. -/
def NumsAt (w : World) (g : Nat) (l : List Nat) : Prop := w.heap[g]? = some (.cells (cellsN l) 3 (0, 0))

theorem tell_eq {D : DataW Unit} {l : Lit} {a b : Int} (h1 : D.atKey l (.lit (.int .i64 0)) = .lit (.int .i64 a)) (h2 : D.atKey l (.lit (.int .i64 0)) = .lit (.int .i64 b)) : a = b := by
  rw [h1] at h2
  simpa using h2

set_option maxHeartbeats 2000000 in
set_option maxRecDepth 100000 in
theorem ranks_any (g cap : Nat) (d : Array (Int × Int)) (w : World) (hsz : d.size ≤ 500) (hL : Lies w g d) (hw : Wf d.toList) :
    Calls Tryz.prog 115 #[.slice (some ⟨g, 0, none⟩) d.size cap] w fun e w' => ∃ g' f, e = .returned (.slice (some ⟨g', 0, none⟩) d.size d.size) ∧ NumsAt w' g' ((List.range d.size).map f) ∧ w.heap.size ≤ g' ∧ Below w.heap.size w w' ∧ Ranks d f := by
  have hg0 := hL.lt
  have HL := hide hL
  have HW := hide hw
  clear hL hw
  have hmm := make_map
  have hmi := make_ints d.size (by omega)
  go_enter Tryz.func115, Tryz.ntmps115
  go_wp2_with (go_at_call 140; refine (clonePairs_any g cap d _ hsz HL.out).mono ?_; rintro e w1 ⟨gs, caps, rfl, hc1, hc2, hgs, hL1, hb1⟩)
  have HL1 := hide hL1
  clear hL1
  go_wp2_with fail
  go_at_call 61
  refine (sort_any gs caps d w1 (by omega) HL1.out).mono ?_
  rintro e w2 ⟨rfl, d', hds, hp, hs, hL2, hg2⟩
  have hgs1 := HL1.out.lt
  have hgs2 := hL2.lt
  have hsd : SrtP d' := fun i j hij hj => hs i j hij (by omega)
  have hcon := ranks_of hds hp hsd
  have hstr := compact_strict hsd
  have hcl := compact_length d'
  have hwc : Wf (compactUpTo d' d'.size) := fun x hx => by
    have : x ∈ d'.toList := by
      unfold compactUpTo at hx
      obtain ⟨i, hi, rfl⟩ := List.mem_map.1 hx
      have hi' : i < d'.size := List.mem_range.1 (List.mem_filter.1 hi).1
      rw [getElem!_pos d' i hi']
      simp
    exact HW.out x (hp.mem_iff.1 this)
  have hmem : ∀ i, i < d.size → d[i]! ∈ compactUpTo d' d'.size := fun i hi => by
    obtain ⟨j, hj, e⟩ := mem_get hp hi
    rw [← e]
    exact compact_mem d' j hj
  have cC := fun W h => compact_any gs caps d' W (by omega) (by omega) hc2 h
  rw [hds] at cC hcon hstr hcl hwc hmem
  have cC' : ∀ W, Lies W gs d' → Calls Tryz.prog 141 #[.slice (some ⟨gs, 0, none⟩) d.size caps] W fun e w' => e = .returned (.slice (some ⟨gs, 0, none⟩) (compactUpTo d' d.size).length caps) ∧ Lies w' gs (compactUpTo d' d.size).toArray ∧ W.grownBy w' (some gs) := cC
  generalize compactUpTo d' d.size = c at cC' hcon hstr hcl hwc hmem
  have hb2 : Below w.heap.size w w2 := hb1.grown hg2 hb1.size (fun j hj => by cases hj; exact hgs)
  have HL2 := hide hL2
  have HR := hide hcon
  have HST := hide hstr
  have HWC := hide hwc
  have HM := hide hmem
  have HC := hide cC'
  clear hp hs hsd hL2 hcon hstr hwc hmem cC cC' hg2 HL1
  have hLa : Lies (w2.alloc (.map #[] 0)) gs d' := HL2.out.kept (Lib.alloc_old _ _ _ hgs2)
  go_wp2_with fail
  go_at_call 141
  refine (HC.out _ hLa).mono ?_
  rintro e w3 ⟨rfl, hL3, hg3⟩
  have hgm : some w2.heap.size ≠ some gs := fun e => by cases e; omega
  have hm3 : w3.ownsMap Tryz.prog 77 (plainElem (H := Unit) Tryz.prog 3) w2.heap.size 0 (.map []) := (World.ownsMap_made w2 Tryz.prog 77 _).kept hg3 hgm
  have hb3 : Below w.heap.size w w3 := (hb2.alloc hb2.size _).grown hg3 (Nat.le_trans hb2.size (World.grownBy_alloc _ _ none).size) (fun j hj => by cases hj; exact hgs)
  have HL3 := hide hL3
  clear hLa hL3 HC
  have hgs3 := HL3.out.lt
  go_wp2
  go_loopw [20] (fun kv wr => ∃ (k : Nat) (D : DataW Unit), k ≤ c.length ∧ kv = .int .i64 k ∧ wr.ownsMap Tryz.prog 77 (plainElem (H := Unit) Tryz.prog 3) w2.heap.size k D ∧ Hid (Tells c k D) ∧ Hid (Lies wr gs c.toArray) ∧ Below w.heap.size w wr) (fun kv _ => c.length - (intOf kv).toNat)
  case atStart => exact ⟨0, .map [], by omega, rfl, hm3, hide (fun j x hj => by omega), HL3, hb3⟩
  case round =>
    obtain ⟨k, D, hk, rfl, hown, HT, HLk, hbx⟩ := hrel
    by_cases hlt : k < c.length
    · obtain ⟨x, hx⟩ : ∃ x, c[k]? = some x := ⟨_, List.getElem?_eq_getElem hlt⟩
      have hcx := HLk.out.cell (j := k) (by simpa using hlt)
      have hxe : c.toArray[k]! = x := by
        rw [getElem!_pos _ k (by simpa using hlt)]
        obtain ⟨h1, h2⟩ := List.getElem?_eq_some_iff.1 hx
        simpa using h2
      rw [hxe] at hcx
      obtain ⟨c1, c2⟩ := hcx
      have hxm := List.mem_of_getElem? hx
      have hkey := key_mk x (HWC.out x hxm).1 (HWC.out x hxm).2
      have hnext := hide (HT.out.next hown.isMap HST.out HWC.out hx)
      have HX := hide hx
      have gsk := HLk.out.lt
      obtain ⟨x1, x2⟩ := x
      simp only at c1 c2 hkey
      have HK := hide hkey
      clear hxe hxm hx hkey
      go_wp2_with (first
        | (at_mapUpdate; refine wpList_mapUpdate_own _ rfl _ _ _ 151 rfl 77 3 law Tryz.underlying151 _ w2.heap.size k D rfl (hown.alloc _) (by unfold maxLen; omega) _ _ (kp (x1, x2)) rfl rfl HK.out _ [] (plainElem_int Tryz.underlying3 (WalkArith.wf_i64 (by omega))) ?_; intro w4 hown4 hgrow4))
      go_roundw
      case rel =>
        refine ⟨k + 1, _, by omega, by go_num, hown4, hnext, ?_, (hbx.alloc hbx.size _).grown hgrow4 (Nat.le_trans hbx.size (World.grownBy_alloc _ _ none).size) (fun j hj => by cases hj; exact hb2.size)⟩
        exact hide (HLk.out.kept (by rw [hgrow4.block gs (Nat.lt_of_lt_of_le gsk (World.grownBy_alloc _ _ none).size) (fun e => hgm e.symm), Lib.alloc_old _ _ _ gsk]))
      case measure => simp [intOf]; omega
    · have hkc : k = c.length := by omega
      subst hkc
      obtain ⟨f, hf⟩ : ∃ f : Nat → Nat, f = fun i => c.idxOf d[i]! := ⟨_, rfl⟩
      have hR := HR.out
      rw [← hf] at hR
      have HR2 := hide hR
      have hfe : ∀ i, f i = c.idxOf d[i]! := fun i => by rw [hf]
      have HFE := hide hfe
      have hgms := hown.lt
      have hwm := hbx.size
      clear hR hf hfe HLk HR hm3 hb3
      rename World => wm
      go_wp2
      go_loopw [34] (fun kv wr => ∃ k : Nat, k ≤ d.size ∧ kv = .int .i64 k ∧ wr.ownsMap Tryz.prog 77 (plainElem (H := Unit) Tryz.prog 3) w2.heap.size c.length D ∧ Hid (NumsAt wr wm.heap.size (fill f d.size k)) ∧ Below w.heap.size w wr) (fun kv _ => d.size - (intOf kv).toNat)
      case atStart => exact ⟨0, by omega, rfl, hown.alloc _, by rw [fill_zero]; exact hide (heap_alloc_new _ _), hbx.alloc hbx.size _⟩
      case round =>
        clear hown hbx
        obtain ⟨k, hk, rfl, hown, HN, hbx⟩ := hrel
        by_cases hlt : k < d.size
        · have hcx := HL.out.cell (j := k) hlt
          have hm := HM.out k hlt
          have hfk := HFE.out k
          generalize hxe : d[k]! = x at hcx hm hfk
          obtain ⟨c1, c2⟩ := hcx
          have hkey := key_mk x (HWC.out x hm).1 (HWC.out x hm).2
          have hil := List.idxOf_lt_length_of_mem hm
          have htell := HT.out (c.idxOf x) x hil (by rw [List.getElem?_eq_getElem hil, List.getElem_idxOf hil])
          rw [← hfk] at htell hil
          obtain ⟨v, hv⟩ : ∃ v, v = f k := ⟨_, rfl⟩
          rw [← hv] at htell hil
          have hgr := heap_lt0 HN.out
          have hcell := cell_here HN.out (cellsN_at (fill_at f (k := k) hlt))
          rw [if_neg (Nat.lt_irrefl k)] at hcell
          have hfr := frozen_of_row _ wm.heap.size k _ _ HN.out
          obtain ⟨x1, x2⟩ := x
          have d1 := (hbx.cell (p := ⟨g, k * 2, none⟩) hg0).trans c1
          have d2 := (hbx.cell (p := ⟨g, k * 2 + 1, none⟩) hg0).trans c2
          simp only at d1 d2 hkey
          have HK := hide hkey
          have HTE := hide htell
          have HV := hide hv
          clear hxe hm hfk hkey htell hv c1 c2
          go_wp2_with (first
            | (at_lookup; refine wpList_lookup_own_int _ rfl _ _ 151 rfl 77 3 .i64 law Tryz.underlying151 Tryz.underlying3 (Tryz.zeroValue3 _) w2.heap.size c.length D rfl (hown.alloc _) _ (kp (x1, x2)) rfl HK.out ?_; intro cv hat hwc; have hcv : cv = (v : Int) := tell_eq hat HTE.out; subst hcv))
          go_roundw
          case rel =>
            refine ⟨k + 1, by omega, by go_num, (hown.kept (grown_setCell wr wm.heap.size k _) (fun e => by simp only [Option.some.injEq] at e; omega)).alloc _, ?_, (hbx.setCell (p := ⟨wm.heap.size, k, none⟩) hwm _).alloc (by have := hbx.size; simpa using this) _⟩
            apply hide
            unfold NumsAt
            rw [Lib.alloc_old _ _ _ (by simpa using hgr), heap_setCell_same _ _ _ _ _ _ HN.out, cellsN_set, HV.out, fill_set]
          case measure => simp [intOf]; omega
        · have hkd : k = d.size := by omega
          subst hkd
          go_wp2
          go_ret
          refine ⟨wm.heap.size, f, rfl, ?_, hwm, hbx, HR2.out⟩
          have := HN.out
          have e : fill f d.size d.size = (List.range d.size).map f := by
            unfold fill
            exact List.map_congr_left fun j hj => by rw [if_pos (List.mem_range.1 hj)]
          rwa [e] at this
end Go.Proofs.YtkiindkoiomieaaGreatDoor
end

section
/-
  P4: the walk of rowsAhead.
-/
namespace Go.Proofs.YtkiindkoiomieaaGreatDoor
open Go.RowKit Go.Lib Go.Sort Go.Maps

/-- The first k of n pairs: as f says; zeros behind them. -/
def fillP (f : Nat → Int × Int) (n k : Nat) : Array (Int × Int) := ((List.range n).map fun j => if j < k then f j else (0, 0)).toArray

theorem fillP_size (f : Nat → Int × Int) (n k : Nat) : (fillP f n k).size = n := by simp [fillP]
theorem fillP_zero (f : Nat → Int × Int) (n : Nat) : zeroP n = fillP f n 0 := by
  apply Array.ext
  · simp [fillP, zeroP]
  · intro i h1 h2
    simp [fillP, zeroP]
theorem fillP_set (f : Nat → Int × Int) (n k : Nat) : (fillP f n k).setIfInBounds k (f k) = fillP f n (k + 1) := by
  apply Array.ext
  · simp [fillP]
  · intro i h1 h2
    simp only [fillP, List.setIfInBounds_toArray, List.getElem_toArray, List.getElem_set, List.getElem_map, List.getElem_range]
    by_cases hk : k = i
    · subst hk
      simp
    · rw [if_neg hk]
      by_cases h3 : i < k
      · rw [if_pos h3, if_pos (by omega)]
      · rw [if_neg h3, if_neg (by omega)]
theorem fillP_at (f : Nat → Int × Int) {n j : Nat} (h : j < n) : (fillP f n n)[j]! = f j := by
  rw [getElem!_pos _ j (by rw [fillP_size]; exact h)]
  simp [fillP, h]
theorem fillP_wf {f : Nat → Int × Int} {n : Nat} (h : ∀ j, j < n → (Lit.int .i64 (f j).1).wf = true ∧ (Lit.int .i64 (f j).2).wf = true) : Wf (fillP f n n).toList := by
  intro x hx
  simp only [fillP, List.mem_map, List.mem_range] at hx
  obtain ⟨j, hj, rfl⟩ := hx
  rw [if_pos hj]
  exact h j hj

theorem wrap64_byte (b : UInt8) : wrap64 (b.toNat : Int) = (b.toNat : Int) := by
  have := b.toNat_lt
  exact IntWalk.wrap64_in _ (by omega)

set_option maxHeartbeats 1000000 in
set_option maxRecDepth 100000 in
theorem rows_any (s : ByteArray) (w : World) (hs : s.size ≤ 500) :
    Calls Tryz.prog 92 #[.string s] w fun e w' => ∃ g p, e = .returned (.slice (some ⟨g, 0, none⟩) s.size s.size) ∧ NumsAt w' g ((List.range s.size).map p) ∧ w.heap.size ≤ g ∧ Below w.heap.size w w' ∧ Tur.Ahead s.data.toList p := by
  obtain ⟨cs, hmk, hsize, hlie⟩ := make_pairs s.size (by omega)
  have HLI := hide hlie
  clear hlie hsize
  obtain ⟨f, hf⟩ : ∃ f : Nat → Int × Int, f = fun j => (((Duv.bt s.data.toList j : Nat) : Int), ((j : Nat) : Int)) := ⟨_, rfl⟩
  have HF := hide hf
  clear hf
  go_enter Tryz.func92, Tryz.ntmps92
  go_wp2
  clear hmk
  go_loopw [10] (fun kv wr => ∃ k : Nat, k ≤ s.size ∧ kv = .int .i64 k ∧ Hid (Lies wr w.heap.size (fillP f s.size k)) ∧ Below w.heap.size w wr) (fun kv _ => s.size - (intOf kv).toNat)
  case atStart => exact ⟨0, by omega, rfl, by rw [← fillP_zero]; exact hide (HLI.out _ _ (heap_alloc_new _ _)), (Below.refl _ _).alloc (Nat.le_refl _) _⟩
  case round =>
    obtain ⟨k, hk, rfl, HL, hbx⟩ := hrel
    by_cases hlt : k < s.size
    · obtain ⟨c1, c2⟩ := HL.out.cell (j := k) (by rw [fillP_size]; exact hlt)
      generalize (fillP f s.size k)[k]! = old at c1 c2
      have f1 := HL.out.frozen (k * 2)
      have f2 := HL.out.frozen (k * 2 + 1)
      go_wp2
      go_roundw
      case rel =>
        refine ⟨k + 1, by omega, by go_num, ?_, ?_⟩
        · apply hide
          rw [wrap64_byte]
          have := HL.out.set (i := k) (by rw [fillP_size]; exact hlt) (s[k].toNat : Int) (k : Int)
          have e : ((s[k].toNat : Int), (k : Int)) = f k := by rw [HF.out, byte_bt s k hlt]
          rw [e, fillP_set] at this
          exact this
        · exact (hbx.setCell (p := ⟨w.heap.size, k * 2, none⟩) (Nat.le_refl _) _).setCell (p := ⟨w.heap.size, k * 2 + 1, none⟩) (Nat.le_refl _) _
      case measure => simp [intOf]; omega
    · have hkd : k = s.size := by omega
      have hL := HL.out
      rw [hkd] at hL
      have hsz := fillP_size f s.size s.size
      have cR := ranks_any w.heap.size s.size (fillP f s.size s.size) wr (by rw [hsz]; exact hs) hL (fillP_wf fun j hj => by
        rw [HF.out]
        have := bt_lt s.data.toList j
        exact ⟨WalkArith.wf_i64 (by simp only; omega), WalkArith.wf_i64 (by simp only; omega)⟩)
      rw [hsz] at cR
      have CR := hide cR
      clear cR hL hsz HL hkd
      go_wp2_with (go_at_call 115; refine CR.out.mono ?_; rintro e w1 ⟨g', p, rfl, hN, hg', hb1, hR⟩)
      go_ret
      refine ⟨g', p, rfl, hN, Nat.le_trans hbx.size hg', hbx.trans (hb1.mono hbx.size), ⟨fun r hr => ?_, fun r q hr hq => ?_⟩⟩
      · have hr' : r < s.size := by rw [Lib.size_eq]; exact hr
        have := hR.lt r (by rw [fillP_size]; exact hr')
        rw [fillP_size] at this
        rw [← Lib.size_eq]
        exact this
      · have hr' : r < s.size := by rw [Lib.size_eq]; exact hr
        have hq' : q < s.size := by rw [Lib.size_eq]; exact hq
        rw [hR.ord r q (by rw [fillP_size]; exact hr') (by rw [fillP_size]; exact hq'), fillP_at f hr', fillP_at f hq', HF.out, ltP_iff]
        simp only
        omega
end Go.Proofs.YtkiindkoiomieaaGreatDoor
end


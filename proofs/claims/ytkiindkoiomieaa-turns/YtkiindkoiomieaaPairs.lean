/-
  P4: the walks of cmp.Or and comparePairs; slices.SortFunc of pairs.
-/
import Derived.Test.YtkiindkoiomieaaRefRound
import Derived.Test.YtkiindkoiomieaaShelfGen
import Derived.Deep.RegionHeld3
namespace Go.Proofs.Ytkiindkoiomieaa
open Go.RowKit Go.Lib Go.Sort

/-- A pair, as it stands in memory. -/
def encP (x : Int × Int) : List Value := [.int .i64 x.1, .int .i64 x.2]

/-- As comparePairs answers. -/
def cmpP (x y : Int × Int) : Int := if Lib.compareInt x.1 y.1 ≠ 0 then Lib.compareInt x.1 y.1 else Lib.compareInt x.2 y.2

/-- As a dictionary does. -/
def ltP (x y : Int × Int) : Bool := decide (x.1 < y.1) || (decide (x.1 = y.1) && decide (x.2 < y.2))

theorem lt_cmpP (x y : Int × Int) : ltOf cmpP x y = ltP x y := by
  unfold ltOf cmpP ltP Lib.compareInt
  by_cases h1 : x.1 < y.1
  · simp [h1]
  · by_cases h2 : y.1 < x.1
    · simp [h1, h2]
      omega
    · have h3 : x.1 = y.1 := by omega
      by_cases h4 : x.2 < y.2
      · simp [h3, h4]
      · by_cases h5 : y.2 < x.2 <;> simp [h3, h4, h5]

theorem swoP : SWO (ltOf cmpP) where
  irrefl x := by rw [lt_cmpP]; simp [ltP]
  trans x y z h1 h2 := by rw [lt_cmpP] at *; simp [ltP] at *; omega
  ntrans x y z h1 h2 := by rw [lt_cmpP] at *; simp [ltP] at *; omega

theorem totP (x y : Int × Int) (h1 : ltOf cmpP x y = false) (h2 : ltOf cmpP y x = false) : x = y := by
  rw [lt_cmpP] at h1 h2
  simp [ltP] at h1 h2
  refine Prod.ext ?_ ?_ <;> omega

set_option maxHeartbeats 400000 in
theorem or_any (g cap : Nat) (a b : Int) (w : World) (h0 : w.cell? ⟨g, 0, none⟩ = some (.int .i64 a)) (h1 : w.cell? ⟨g, 1, none⟩ = some (.int .i64 b)) :
    Calls Try.prog 65 #[.slice (some ⟨g, 0, none⟩) 2 cap] w fun e w' => e = .returned (.int .i64 (if a ≠ 0 then a else b)) ∧ w' = w := by
  by_cases ha : a = 0
  · subst ha
    have ha' : ((0 : Int) != 0) = false := by decide
    by_cases hb : b = 0
    · subst hb
      go_enter Try.func65, Try.ntmps65
      go_wp2
      refine wp_loop_rounds 3 ?_
      rw [rounds_succ]
      go_wp2
      rw [rounds_succ]
      go_wp2
      rw [rounds_succ]
      go_wp2
      go_ret
      exact ⟨rfl, rfl⟩
    · have hb' : (b != 0) = true := by simpa using hb
      go_enter Try.func65, Try.ntmps65
      go_wp2
      refine wp_loop_rounds 3 ?_
      rw [rounds_succ]
      go_wp2
      rw [rounds_succ]
      go_wp2
      go_ret
      exact ⟨by simp, rfl⟩
  · have ha' : (a != 0) = true := by simpa using ha
    go_enter Try.func65, Try.ntmps65
    go_wp2
    refine wp_loop_rounds 3 ?_
    rw [rounds_succ]
    go_wp2
    go_ret
    exact ⟨by simp, rfl⟩

set_option maxHeartbeats 1000000 in
theorem compare_any (x y : Int × Int) (w : World) :
    Calls Try.prog 52 #[.agg #[.int .i64 x.1, .int .i64 x.2], .agg #[.int .i64 y.1, .int .i64 y.2]] w fun e w' => e = .returned (.int .i64 (cmpP x y)) ∧ ∃ q os', w' = grow (w.drewN q) os' := by
  obtain ⟨a, b⟩ := x
  obtain ⟨c, d⟩ := y
  obtain ⟨r, hr⟩ : ∃ r, r = cmpP (a, b) (c, d) := ⟨_, rfl⟩
  have c3 := fun g W h0 h1 => or_any g 2 (Lib.compareInt a c) (Lib.compareInt b d) W h0 h1
  have e3 : (if Lib.compareInt a c ≠ 0 then Lib.compareInt a c else Lib.compareInt b d) = r := by rw [hr]; rfl
  rw [e3] at c3
  rw [← hr]
  have C3 := hide c3
  simp only
  clear c3 hr e3
  go_enter Try.func52, Try.ntmps52
  go_wp2_with fail
  generalize hW1 : (w.alloc (Obj.cells #[.int .i64 a, .int .i64 b] 78)).alloc (Obj.cells #[.int .i64 c, .int .i64 d] 78) = W1
  have g1 : W1.heap[w.heap.size]? = some (.cells #[.int .i64 a, .int .i64 b] 78 (0, 0)) := by
    rw [← hW1, Lib.alloc_old _ _ _ (by simp)]
    exact heap_alloc_new _ _
  have g2 : W1.heap[w.heap.size + 1]? = some (.cells #[.int .i64 c, .int .i64 d] 78 (0, 0)) := by
    rw [← hW1]
    have := heap_alloc_new (w.alloc (Obj.cells #[.int .i64 a, .int .i64 b] 78)) (Obj.cells #[.int .i64 c, .int .i64 d] 78)
    simpa using this
  have k1 := cell_here g1 (j := 0) (v := .int .i64 a) rfl
  have k2 := cell_here g1 (j := 1) (v := .int .i64 b) rfl
  have k3 := cell_here g2 (j := 0) (v := .int .i64 c) rfl
  have k4 := cell_here g2 (j := 1) (v := .int .i64 d) rfl
  have HW := hide hW1
  have g3 : ((W1.alloc (.cells #[.int .i64 (Lib.compareInt a c), .int .i64 (Lib.compareInt b d)] 3)).drew).heap[W1.heap.size]? = some (.cells #[.int .i64 (Lib.compareInt a c), .int .i64 (Lib.compareInt b d)] 3 (0, 0)) := heap_alloc_new _ _
  have C4 := hide (C3.out W1.heap.size _ (cell_here g3 (j := 0) rfl) (cell_here g3 (j := 1) rfl))
  clear g1 g2 hW1 g3 C3
  go_region_held3 (fun w' => w'.cell? ⟨w.heap.size, 0, none⟩ = some (.int .i64 a) ∧ w'.cell? ⟨w.heap.size, 1, none⟩ = some (.int .i64 b) ∧ w'.cell? ⟨w.heap.size + 1, 0, none⟩ = some (.int .i64 c) ∧ w'.cell? ⟨w.heap.size + 1, 1, none⟩ = some (.int .i64 d)) (go_keep) (first
    | (go_at_call 66; refine (Try.cmp_Compare_int _ _ _).mono ?_; rintro e w' ⟨rfl, rfl⟩)
    | (go_at_call 65; refine C4.out.mono ?_; rintro e w' ⟨rfl, rfl⟩))
  go_wp2
  go_ret
  refine ⟨rfl, 1, #[.cells #[.int .i64 a, .int .i64 b] 78] ++ #[.cells #[.int .i64 c, .int .i64 d] 78] ++ #[.cells #[.int .i64 (Lib.compareInt a c), .int .i64 (Lib.compareInt b d)] 3], ?_⟩
  rw [← HW.out, alloc_eq_grow, alloc_eq_grow, alloc_eq_grow, grow_grow, grow_grow]
  rfl
end Go.Proofs.Ytkiindkoiomieaa
